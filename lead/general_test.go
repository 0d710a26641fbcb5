package lead

import (
	"slices"
	"testing"

	"facsimile/api"
)

// spare is p with more behind its end.
func spare(p []api.Piece) []api.Piece {
	longer := append(slices.Clone(p), piece(1, "behind"), piece(0, "behind"), piece(-2, "behind"))
	return longer[:len(p)]
}

// behind are the pieces behind the end of what spare made.
func behind(p []api.Piece) string {
	return shownPieces(p[len(p) : len(p)+3])
}

// Arguments are not changed, nor what is behind their ends.
func TestP1701Arguments(t *testing.T) {
	const kept = `1"behind" 0"behind" -2"behind"`
	var r lcg
	for range 1000 {
		l := mixedTokens(&r)
		longer := append(slices.Clone(l), tokens(api.Note, api.Plain)...)
		before := slices.Clone(longer)
		p := spare(mixedPieces(&r, r.below(12), true))
		keptPieces := slices.Clone(p)
		w := append(modelWords(l, p), made(7, "behind"))
		for i := range w {
			w[i].Lead = spare(w[i].Lead)
		}
		keptWords := cloneWords(w)
		Trivia(longer[:len(l)], r.below(10))
		Words(longer[:len(l)], p)
		Notes(longer[:len(l)], p)
		Pieces(w[:len(w)-1])
		Right(longer[:len(l)], w[:len(w)-1])
		if !slices.EqualFunc(longer, before, func(a, b api.Token) bool { return a.Name == b.Name && a.Class == b.Class }) {
			t.Fatal("tokens were changed")
		}
		if !slices.Equal(p, keptPieces) || behind(p) != kept {
			t.Fatal("pieces were changed:", shownPieces(p), behind(p))
		}
		if !sameWords(w, keptWords) {
			t.Fatal("words were changed:", shownWords(w))
		}
		for _, x := range w {
			if behind(x.Lead) != kept {
				t.Fatal("what is behind a Lead was changed:", behind(x.Lead))
			}
		}
	}
}

// spoil writes over all pieces of p, and over the room behind them.
func spoil(p []api.Piece) {
	p = p[:cap(p)]
	for i := range p {
		p[i] = piece(-9, "spoilt")
	}
}

// Results share no memory with arguments, with each other, nor among themselves.
func TestP1701Memory(t *testing.T) {
	var r lcg
	for range 1000 {
		l, p := mixedTokens(&r), mixedPieces(&r, r.below(40), true)
		want, notes := modelWords(l, p), modelNotes(l, p)
		w, other, gotNotes := Words(l, p), Words(l, p), Notes(l, p)
		back := Pieces(w)
		wantBack := slices.Clone(back)
		for i := range other {
			others := cloneWords(other)
			spoil(other[i].Lead)
			others[i].Lead = slices.Repeat([]api.Piece{piece(-9, "spoilt")}, len(others[i].Lead))
			if !sameWords(other, others) {
				t.Fatal("Leads of one answer share memory")
			}
		}
		spoil(p)
		spoil(Notes(l, want[len(want)-1].Lead))
		if !sameWords(w, want) || !slices.Equal(gotNotes, notes) {
			t.Fatal("results share memory:", shownWords(w))
		}
		spoil(Pieces(w))
		if !sameWords(w, want) {
			t.Fatal("pieces share memory with their words")
		}
		for i := range w {
			spoil(w[i].Lead)
		}
		if !slices.Equal(back, wantBack) {
			t.Fatal("pieces share memory with their words")
		}
	}
}

// Results of one list of words alone, and of one piece, are new memory as well.
func TestP1701Single(t *testing.T) {
	for _, p := range [][]api.Piece{{piece(2, "#")}, {piece(2, "#"), piece(3, "//")}} {
		w := []api.Word{made(-2, "", slices.Clone(p)...)}
		spoil(Pieces(w))
		if !slices.Equal(w[0].Lead, p) {
			t.Error("the pieces of one word are its Lead")
		}
		given := slices.Clone(p)
		spoil(Notes(all, given))
		spoil(Words(all, given)[0].Lead)
		if !slices.Equal(given, p) {
			t.Error("notes and Leads are the pieces")
		}
	}
}

// The same arguments give the same results, whatever was called before; nil and empty lists are the same.
func TestP1701Pure(t *testing.T) {
	var r lcg
	for range 500 {
		l, p := mixedTokens(&r), mixedPieces(&r, r.below(20), true)
		w, notes := Words(l, p), Notes(l, p)
		back, right := Pieces(w), Right(l, w)
		Words(all, back)
		Notes(mixedTokens(&r), p)
		Right(all, w)
		empty := cloneWords(w)
		for i := range empty {
			if len(empty[i].Lead) == 0 {
				empty[i].Lead = []api.Piece{}
			}
		}
		if !sameWords(Words(l, slices.Clone(p)), w) || !slices.Equal(Notes(slices.Clone(l), p), notes) {
			t.Fatal("calls answer otherwise again")
		}
		if !slices.Equal(Pieces(empty), back) || Right(l, empty) != right {
			t.Fatal("empty Leads are other ones than none")
		}
	}
	for _, l := range [][]api.Token{nil, {}} {
		if len(Words(l, nil)) != 1 || len(Words(l, []api.Piece{})) != 1 || len(Notes(l, nil)) != 0 || len(Notes(l, []api.Piece{})) != 0 {
			t.Error("nil and empty lists differ")
		}
	}
}
