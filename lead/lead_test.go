package lead

import (
	"math"
	"slices"
	"strings"
	"testing"

	"facsimile/api"
)

// all are tokens of each class, and of some that there are not: 0 is plain, 1 a blank, 2 a note, 3 a line; 4 to 7 are none of these.
var all = tokens(api.Plain, api.Blank, api.Note, api.Line, 4, -1, math.MaxInt, math.MinInt)

// P1702: trivia are tokens of three classes, and no number that is not a token's.
func TestP1702Trivia(t *testing.T) {
	for _, x := range []struct {
		l    []api.Token
		t    int
		want bool
	}{
		{all, 0, false}, {all, 1, true}, {all, 2, true}, {all, 3, true}, {all, 4, false}, {all, 5, false}, {all, 6, false}, {all, 7, false},
		{all, -1, false}, {all, -2, false}, {all, 8, false}, {all, math.MinInt, false}, {all, math.MaxInt, false},
		{nil, 0, false}, {nil, -1, false}, {[]api.Token{}, 0, false}, {tokens(api.Blank), 0, true}, {tokens(api.Blank), 1, false},
		{tokens(api.Blank), -1, false}, {tokens(api.Note, api.Plain), 0, true}, {tokens(api.Note, api.Plain), 1, false},
		{tokens(api.Plain, api.Line), 1, true}, {tokens(api.Plain, api.Line), 2, false}, {slices.Repeat(tokens(api.Blank), 3), -3, false},
		{slices.Repeat(tokens(api.Plain, api.Line), 500), 999, true}, {slices.Repeat(tokens(api.Plain, api.Line), 500), 998, false},
		{slices.Repeat(tokens(api.Plain, api.Line), 500), 1000, false},
	} {
		if got := Trivia(x.l, x.t); got != x.want {
			t.Errorf("%d is trivia of %s: %t, not %t", x.t, shownTokens(x.l), got, x.want)
		}
	}
}

// P1702: of all pieces those of notes and lines are left, in order.
func TestP1702Notes(t *testing.T) {
	for _, x := range []struct {
		p, want []api.Piece
	}{
		{nil, nil}, {[]api.Piece{piece(0, "a"), piece(1, " ")}, nil}, {[]api.Piece{piece(2, "#")}, []api.Piece{piece(2, "#")}},
		{
			[]api.Piece{piece(3, "//b"), piece(1, " "), piece(2, "#a"), piece(0, "x"), piece(2, ""), piece(3, "//b")},
			[]api.Piece{piece(3, "//b"), piece(2, "#a"), piece(2, ""), piece(3, "//b")},
		},
		{[]api.Piece{piece(-1, "#"), piece(-2, ""), piece(8, ""), piece(math.MaxInt, ""), piece(math.MinInt, ""), piece(4, ""), piece(5, ""), piece(6, ""), piece(7, "")}, nil},
	} {
		if got := Notes(all, x.p); !slices.Equal(got, x.want) {
			t.Errorf("the notes of %s are %s, not %s", shownPieces(x.p), shownPieces(got), shownPieces(x.want))
		}
	}
	if l := Notes(nil, []api.Piece{piece(0, ""), piece(2, ""), piece(3, "")}); len(l) != 0 {
		t.Error("without tokens there are notes:", shownPieces(l))
	}
	var r lcg
	found := 0
	for range 4000 {
		l, p := mixedTokens(&r), mixedPieces(&r, r.below(30), true)
		got := Notes(l, p)
		if want := modelNotes(l, p); !slices.Equal(got, want) {
			t.Fatalf("the notes of %s, of the classes %s, are %s, not %s", shownPieces(p), shownTokens(l), shownPieces(got), shownPieces(want))
		}
		found += len(got)
	}
	if found < 5000 {
		t.Error("notes:", found)
	}
}

// The chapter's example, and the edges of words.
func TestP1703Words(t *testing.T) {
	b, n, line, x := piece(1, " "), piece(2, "#"), piece(3, "//"), piece(0, "x")
	for _, c := range []struct {
		p    []api.Piece
		want []api.Word
	}{
		{[]api.Piece{b, x, x, b}, []api.Word{made(0, "x", b), made(0, "x"), made(-2, "", b)}},
		{nil, []api.Word{made(-2, "")}}, {[]api.Piece{}, []api.Word{made(-2, "")}},
		{[]api.Piece{x}, []api.Word{made(0, "x"), made(-2, "")}},
		{[]api.Piece{b}, []api.Word{made(-2, "", b)}},
		{[]api.Piece{b, n, line, n, b}, []api.Word{made(-2, "", b, n, line, n, b)}},
		{[]api.Piece{n, b, x, line, b, b, x}, []api.Word{made(0, "x", n, b), made(0, "x", line, b, b), made(-2, "")}},
		{[]api.Piece{b, piece(-1, "?"), b, piece(-1, "!"), piece(-1, "")}, []api.Word{made(-1, "?", b), made(-1, "!", b), made(-1, ""), made(-2, "")}},
		{[]api.Piece{piece(8, "a"), b, piece(math.MaxInt, "b"), piece(math.MinInt, "c")}, []api.Word{made(8, "a"), made(math.MaxInt, "b", b), made(math.MinInt, "c"), made(-2, "")}},
		{[]api.Piece{piece(4, "a"), b, piece(5, "b"), b, piece(6, "c"), piece(7, "d")}, []api.Word{made(4, "a"), made(5, "b", b), made(6, "c", b), made(7, "d"), made(-2, "")}},
		{[]api.Piece{b, piece(-2, ""), b}, []api.Word{made(-2, "", b), made(-2, "", b)}},
		{[]api.Piece{piece(-2, "a"), b, piece(-2, "b"), x}, []api.Word{made(-2, "a"), made(-2, "b", b), made(0, "x"), made(-2, "")}},
		{[]api.Piece{piece(1, ""), piece(0, ""), piece(1, "")}, []api.Word{made(0, "", piece(1, "")), made(-2, "", piece(1, ""))}},
	} {
		if got := Words(all, c.p); !sameWords(got, c.want) {
			t.Errorf("the words of %s are %s, not %s", shownPieces(c.p), shownWords(got), shownWords(c.want))
		}
	}
	if got := Words(nil, []api.Piece{b, x}); !sameWords(got, []api.Word{made(1, " "), made(0, "x"), made(-2, "")}) {
		t.Error("without tokens the words are", shownWords(got))
	}
}

// Pieces of words of all kinds, right or not.
func TestP1703Pieces(t *testing.T) {
	b, x := piece(1, " "), piece(0, "x")
	for _, c := range []struct {
		w    []api.Word
		want []api.Piece
	}{
		{nil, nil}, {[]api.Word{}, nil}, {[]api.Word{made(-2, "")}, nil}, {[]api.Word{{}}, []api.Piece{{}}},
		{[]api.Word{made(0, "x", b), made(0, "x"), made(-2, "", b)}, []api.Piece{b, x, x, b}},
		{[]api.Word{made(0, "x", b)}, []api.Piece{b, x}},
		{[]api.Word{made(-2, "x", b), made(-2, "y"), made(-2, "", x)}, []api.Piece{b, x}},
		{[]api.Word{made(-2, "x", piece(-2, "y"))}, []api.Piece{piece(-2, "y")}},
		{[]api.Word{made(1, " ", x), made(-1, "?"), made(-3, ""), made(math.MinInt, "m"), made(math.MaxInt, "M")}, []api.Piece{x, b, piece(-1, "?"), piece(-3, ""), piece(math.MinInt, "m"), piece(math.MaxInt, "M")}},
	} {
		if got := Pieces(c.w); !slices.Equal(got, c.want) {
			t.Errorf("the pieces of %s are %s, not %s", shownWords(c.w), shownPieces(got), shownPieces(c.want))
		}
	}
}

// Words that are right, and each way in which they are not.
func TestP1703Right(t *testing.T) {
	b, n, line, x := piece(1, " "), piece(2, "#"), piece(3, "//"), piece(0, "x")
	last := made(-2, "")
	for _, c := range []struct {
		w    []api.Word
		want bool
	}{
		{nil, false}, {[]api.Word{}, false}, {[]api.Word{{}}, false}, {[]api.Word{last}, true}, {[]api.Word{made(-2, "x")}, false},
		{[]api.Word{made(0, "x")}, false}, {[]api.Word{made(-1, "")}, false}, {[]api.Word{made(-3, "")}, false}, {[]api.Word{last, last}, false},
		{[]api.Word{made(0, "x"), last}, true}, {[]api.Word{made(0, ""), last}, true}, {[]api.Word{made(0, "x"), made(-2, "x")}, false},
		{[]api.Word{last, made(0, "x")}, false}, {[]api.Word{last, made(0, "x"), last}, false}, {[]api.Word{made(-2, "x"), last}, false},
		{[]api.Word{made(1, " "), last}, false}, {[]api.Word{made(2, "#"), last}, false}, {[]api.Word{made(3, "//"), last}, false},
		{[]api.Word{made(-1, "?"), made(8, "a"), made(math.MaxInt, ""), made(math.MinInt, ""), made(-3, ""), made(4, ""), made(5, ""), made(6, ""), made(7, ""), last}, true},
		{[]api.Word{made(0, "x", b, n, line), made(-2, "", line, n, b)}, true},
		{[]api.Word{made(0, "x", b, n, x), last}, false}, {[]api.Word{made(0, "x", x, b, n), last}, false}, {[]api.Word{made(0, "x", b), made(-2, "", x)}, false},
		{[]api.Word{made(0, "x", piece(-1, " ")), last}, false}, {[]api.Word{made(0, "x"), made(-2, "", piece(-2, ""))}, false},
		{[]api.Word{made(-2, "", piece(8, " "))}, false}, {[]api.Word{made(-2, "", piece(4, " "))}, false}, {[]api.Word{made(-2, "", piece(1, ""))}, true},
	} {
		if got := Right(all, c.w); got != c.want {
			t.Errorf("the words %s are right: %t, not %t", shownWords(c.w), got, c.want)
		}
	}
	if Right(nil, []api.Word{made(-2, "", b)}) || !Right(nil, []api.Word{made(1, " "), last}) {
		t.Error("without tokens there are trivia")
	}
}

// holdPieces holds Words and Pieces of the pieces p against the chapter's words and P1704 and P1705.
func holdPieces(t *testing.T, l []api.Token, p []api.Piece) {
	t.Helper()
	w := Words(l, p)
	if want := modelWords(l, p); !sameWords(w, want) {
		t.Fatalf("the words of %s, of the classes %s, are %s, not %s", shownPieces(p), shownTokens(l), shownWords(w), shownWords(want))
	}
	ends := slices.ContainsFunc(p, func(x api.Piece) bool { return x.Tok == -2 })
	if again := Pieces(w); slices.Equal(again, p) == ends {
		t.Fatalf("the pieces of the words of %s are %s", shownPieces(p), shownPieces(again))
	}
	if Right(l, w) == ends {
		t.Fatalf("the words of %s, of the classes %s, are right: %t", shownPieces(p), shownTokens(l), ends)
	}
}

// holdWords holds Pieces and Right of the words w against the chapter's words; by P1705 just words that are right
// are the words of their pieces.
func holdWords(t *testing.T, l []api.Token, w []api.Word) bool {
	t.Helper()
	p := Pieces(w)
	if want := modelPieces(w); !slices.Equal(p, want) {
		t.Fatalf("the pieces of %s are %s, not %s", shownWords(w), shownPieces(p), shownPieces(want))
	}
	right := Right(l, w)
	if right != modelRight(l, w) {
		t.Fatalf("the words %s, of the classes %s, are right: %t", shownWords(w), shownTokens(l), right)
	}
	if again := Words(l, p); sameWords(again, w) != right {
		t.Fatalf("the words %s, of the classes %s, are right: %t, but come back as %s", shownWords(w), shownTokens(l), right, shownWords(again))
	}
	return right
}

// P1703 to P1705 for all short lists of pieces, and for long mixed ones.
func TestP1704(t *testing.T) {
	of := []api.Piece{piece(-3, "m"), piece(-2, ""), piece(-2, "e"), piece(-1, "?"), piece(0, "x"), piece(1, " "), piece(2, "#"), piece(3, "/"), piece(4, "f"), piece(8, "")}
	eachPieces(of, 4, func(p []api.Piece) { holdPieces(t, all, p) })
	var r lcg
	for range 5000 {
		holdPieces(t, mixedTokens(&r), mixedPieces(&r, r.below(40), r.below(2) == 0))
	}
}

// P1703 to P1705 for all short lists of words, and for long mixed ones.
func TestP1705(t *testing.T) {
	var of []api.Word
	for _, token := range []int{-2, -1, 0, 1, 3} {
		for _, text := range []string{"", "x"} {
			of = append(of, made(token, text), made(token, text, piece(1, "")), made(token, text, piece(3, "/"), piece(0, "x")), made(token, text, piece(-2, "")))
		}
	}
	counts := [2]int{}
	count := func(right bool) {
		if right {
			counts[1]++
		}
		counts[0]++
	}
	eachWords(of, 3, func(w []api.Word) { count(holdWords(t, all, w)) })
	var r lcg
	for range 10000 {
		l := mixedTokens(&r)
		count(holdWords(t, l, mixedWords(&r, l, r.below(20))))
	}
	if counts[0] < 70000 || counts[1] < 3000 {
		t.Error("words, and right ones:", counts)
	}
}

// Long lists: of words alone, of trivia alone, and of both.
func TestP1703Long(t *testing.T) {
	const size = 1 << 19
	b, x := piece(1, " "), piece(0, "x")
	for _, c := range []struct {
		part []api.Piece
		many int
		want int
	}{
		{[]api.Piece{x}, size, size + 1}, {[]api.Piece{b}, size, 1}, {[]api.Piece{b, x}, size / 2, size/2 + 1},
		{append(slices.Repeat([]api.Piece{b}, 1000), x), size / 1000, size/1000 + 1},
	} {
		p := slices.Repeat(c.part, c.many)
		w := Words(all, p)
		if len(w) != c.want || !sameWords(w, modelWords(all, p)) {
			t.Errorf("%d times %s are %d words", c.many, strings.Repeat("b", len(c.part)-1), len(w))
		}
		if !Right(all, w) || !slices.Equal(Pieces(w), p) || len(Notes(all, p)) != 0 {
			t.Errorf("%d times %s come back otherwise", c.many, strings.Repeat("b", len(c.part)-1))
		}
	}
}
