package lead

import (
	"slices"
	"strconv"
	"strings"

	"facsimile/api"
)

// lcg is a row of numbers that look mixed, the same in each run.
type lcg uint64

func (r *lcg) below(n int) int {
	*r = *r*6364136223846793005 + 1442695040888963407
	return int(uint64(*r)>>33) % n
}

// tokens are tokens of the classes.
func tokens(classes ...api.Class) []api.Token {
	var l []api.Token
	for i, class := range classes {
		l = append(l, api.Token{Name: "t" + strconv.Itoa(i), Class: class})
	}
	return l
}

// mixedTokens are up to 8 tokens of all classes, and of such as there are none, the same for the same numbers.
func mixedTokens(r *lcg) []api.Token {
	classes := []api.Class{api.Plain, api.Plain, api.Blank, api.Note, api.Line, 4, -1}
	var l []api.Token
	for range r.below(9) {
		l = append(l, tokens(classes[r.below(len(classes))])...)
	}
	return l
}

// mixedPieces are n pieces, of which few have the Tok -2 if any may.
func mixedPieces(r *lcg, n int, ends bool) []api.Piece {
	var p []api.Piece
	for len(p) < n {
		x := piece(r.below(13)-3, strings.Repeat("ab", r.below(3)))
		if x.Tok != -2 || ends && r.below(4) == 0 {
			p = append(p, x)
		}
	}
	return p
}

// mixedWords are n words, of which many are at most a little wrong.
func mixedWords(r *lcg, l []api.Token, n int) []api.Word {
	w := modelWords(l, mixedPieces(r, n, false))
	for range r.below(3) {
		x := &w[r.below(len(w))]
		switch r.below(5) {
		case 0:
			x.Tok = r.below(13) - 3
		case 1:
			x.Text += "x"
		case 2:
			x.Lead = append(x.Lead, mixedPieces(r, 1, true)...)
		case 3:
			x.Lead = x.Lead[:len(x.Lead)/2]
		case 4:
			w = w[:1+r.below(len(w))]
		}
	}
	return w
}

func piece(token int, text string) api.Piece {
	return api.Piece{Tok: token, Text: text}
}

func made(token int, text string, lead ...api.Piece) api.Word {
	return api.Word{Lead: lead, Tok: token, Text: text}
}

// modelTrivia is what P1702 says of Trivia: that there is such a token.
func modelTrivia(l []api.Token, token int) bool {
	for i, x := range l {
		if i == token && (x.Class == api.Blank || x.Class == api.Note || x.Class == api.Line) {
			return true
		}
	}
	return false
}

// modelNotes is what P1702 says of Notes: what is left of the pieces without all others.
func modelNotes(l []api.Token, p []api.Piece) []api.Piece {
	return slices.DeleteFunc(slices.Clone(p), func(x api.Piece) bool {
		for i, token := range l {
			if i == x.Tok && (token.Class == api.Note || token.Class == api.Line) {
				return false
			}
		}
		return true
	})
}

// modelWords is what P1703 says of Words, by the places of the pieces that are not trivia.
func modelWords(l []api.Token, p []api.Piece) []api.Word {
	var w []api.Word
	behind := 0
	for i, x := range p {
		if !modelTrivia(l, x.Tok) {
			w = append(w, made(x.Tok, x.Text, slices.Clone(p[behind:i])...))
			behind = i + 1
		}
	}
	return append(w, made(-2, "", slices.Clone(p[behind:])...))
}

// modelPieces is what P1703 says of Pieces, from the last word to the first.
func modelPieces(w []api.Word) []api.Piece {
	var p []api.Piece
	for i := len(w) - 1; i >= 0; i-- {
		own := slices.Clone(w[i].Lead)
		if w[i].Tok != -2 {
			own = append(own, piece(w[i].Tok, w[i].Text))
		}
		p = append(own, p...)
	}
	return p
}

// modelRight is what P1703 says of Right, demand by demand.
func modelRight(l []api.Token, w []api.Word) bool {
	if len(w) == 0 {
		return false
	}
	for _, x := range w {
		for _, y := range x.Lead {
			if !modelTrivia(l, y.Tok) {
				return false
			}
		}
	}
	for _, x := range w[:len(w)-1] {
		if x.Tok == -2 || modelTrivia(l, x.Tok) {
			return false
		}
	}
	last := w[len(w)-1]
	return last.Tok == -2 && last.Text == ""
}

// sameWords reports whether words are equal; no Lead and an empty one are.
func sameWords(a, b []api.Word) bool {
	return slices.EqualFunc(a, b, func(x, y api.Word) bool {
		return x.Tok == y.Tok && x.Text == y.Text && slices.Equal(x.Lead, y.Lead)
	})
}

// shownPieces is a text of pieces: of each its token and its text, quoted.
func shownPieces(p []api.Piece) string {
	var l []string
	for _, x := range p {
		l = append(l, strconv.Itoa(x.Tok)+strconv.Quote(x.Text))
	}
	return strings.Join(l, " ")
}

// shownWords is a text of words: of each its Lead in brackets, its token and its text.
func shownWords(w []api.Word) string {
	var l []string
	for _, x := range w {
		l = append(l, "["+shownPieces(x.Lead)+"]"+shownPieces([]api.Piece{piece(x.Tok, x.Text)}))
	}
	return strings.Join(l, " ")
}

// shownTokens is a text of the classes of tokens.
func shownTokens(l []api.Token) string {
	var s []string
	for _, x := range l {
		s = append(s, strconv.Itoa(int(x.Class)))
	}
	return strings.Join(s, " ")
}

// cloneWords are words that share nothing with w.
func cloneWords(w []api.Word) []api.Word {
	c := slices.Clone(w)
	for i := range c {
		c[i].Lead = slices.Clone(c[i].Lead)
	}
	return c
}

// eachPieces calls see with all lists of up to n of the pieces.
func eachPieces(of []api.Piece, n int, see func(p []api.Piece)) {
	l := [][]api.Piece{nil}
	for from := 0; from < len(l); from++ {
		see(l[from])
		for _, x := range of {
			if len(l[from]) < n {
				l = append(l, append(slices.Clone(l[from]), x))
			}
		}
	}
}

// eachWords calls see with all lists of up to n of the words.
func eachWords(of []api.Word, n int, see func(w []api.Word)) {
	l := [][]api.Word{nil}
	for from := 0; from < len(l); from++ {
		see(l[from])
		for _, x := range of {
			if len(l[from]) < n {
				l = append(l, append(slices.Clone(l[from]), x))
			}
		}
	}
}
