package lead

import "facsimile/api"

// text is the words of a text that are complete, and the trivia of the next one.
type text struct {
	words []api.Word
	lead  []api.Piece
}

// extend puts a piece behind the trivia of the next word.
func (t *text) extend(p api.Piece) {
	t.lead = append(t.lead, p)
}

// close completes the next word with the piece that it is, and begins another one.
func (t *text) close(p api.Piece) {
	t.words = append(t.words, api.Word{Lead: t.lead, Tok: p.Tok, Text: p.Text})
	t.lead = nil
}

// sift hands on each piece of p in order, those that are trivia to trivia and the others to other.
func sift(l []api.Token, p []api.Piece, trivia, other func(p api.Piece)) {
	for _, x := range p {
		hand := other
		if Trivia(l, x.Tok) {
			hand = trivia
		}
		hand(x)
	}
}
