package munch

import (
	"math"
	"slices"
	"strings"
	"testing"

	"facsimile/api"
	"facsimile/dfa"
	"facsimile/rx"
	"facsimile/rxfact"
)

// holdNext holds what Next answers to the token and the place that it must tell.
func holdNext(t *testing.T, d api.Dfa, s string, at, token, end int) {
	t.Helper()
	if gotToken, gotEnd := Next(d, s, at); gotToken != token || gotEnd != end {
		t.Errorf("Next of %.60q at %d is %d, %d, not %d, %d, by %s", s, at, gotToken, gotEnd, token, end, shown(d))
	}
}

// holdCut holds what Cut answers to the pieces that it must tell.
func holdCut(t *testing.T, d api.Dfa, s, want string) {
	t.Helper()
	if got := shownPieces(Cut(d, s)); got != want {
		t.Errorf("Cut of %.60q is %.200s, not %.200s, by %s", s, got, want, shown(d))
	}
}

// holdWhole holds what Whole answers to what it must be.
func holdWhole(t *testing.T, d api.Dfa, token int, text string, want bool) {
	t.Helper()
	if got := Whole(d, api.Piece{Tok: token, Text: text}); got != want {
		t.Errorf("that %.60q is the whole token %d is %v, not %v, by %s", text, token, got, want, shown(d))
	}
}

func TestP1602Examples(t *testing.T) {
	d := built(t, "a+", "ab")
	holdNext(t, d, "aab", 0, 0, 2)
	holdNext(t, d, "aab", 1, 1, 3)
	holdNext(t, d, "aab", 2, -1, 3)
	holdCut(t, d, "aab", `0"aa" -1"b"`)
	holdWhole(t, d, 1, "ab", true)
}

// Places that are none, the end of the text before all.
func TestP1602Places(t *testing.T) {
	for _, d := range []api.Dfa{built(t, "a+"), built(t, "b"), {Width: 1, Next: [][]int{{0}}, Label: []int{4}}} {
		for _, s := range []string{"", "a", "aa", "baab"} {
			for _, at := range []int{math.MinInt, math.MinInt + 1, -1 << 32, -2, -1, len(s), len(s) + 1, 1 << 32, math.MaxInt - 1, math.MaxInt} {
				holdNext(t, d, s, at, -1, 0)
			}
		}
	}
	d := built(t, "a+")
	holdNext(t, d, "a", 0, 0, 1)
	holdNext(t, d, "baa", 0, -1, 1)
	holdNext(t, d, "baa", 1, 0, 3)
	holdNext(t, d, "baa", 2, 0, 3)
	holdNext(t, d, "aab", 2, -1, 3)
}

// The longest word is read, also where a longer one was begun that is none; of several tokens the first one reads it.
func TestP1602Longest(t *testing.T) {
	for _, x := range []struct {
		texts   []string
		s, want string
	}{
		{[]string{"[0-9]+", `[0-9]+\.[0-9]+`, `\.`}, "12.5.7..3.", `1"12.5" 2"." 0"7" 2"." 2"." 0"3" 2"."`},
		{[]string{`[0-9]+(e[+\-]?[0-9]+)?`, "[a-z]+", `[+\-]`}, "1e5e+1e+-2", `0"1e5" 1"e" 2"+" 0"1" 1"e" 2"+" 2"-" 0"2"`},
		{[]string{"if", "[a-z]+", `\x20+`}, "if iff fi i  f", `0"if" 2" " 1"iff" 2" " 1"fi" 2" " 1"i" 2"  " 1"f"`},
		{[]string{"[a-z]+", "if"}, "if", `0"if"`},
		{[]string{"a", "a"}, "aa", `0"a" 0"a"`},
		{[]string{"a", "ab", "abcd"}, "abcabcdab", `1"ab" -1"c" 2"abcd" 1"ab"`},
		{[]string{"a", "abcde"}, "abcdabcde", `0"a" -1"b" -1"c" -1"d" 1"abcde"`},
		{[]string{"a", "a*b"}, "aaabaa", `1"aaab" 0"a" 0"a"`},
		{[]string{"a*b", "a"}, "aab\naab", `0"aab" -1"\n" 0"aab"`},
		{[]string{`"[^"]*"`, "[a-z]", `\x20`}, `"a b"a"b`, `0"\"a b\"" 1"a" -1"\"" 1"b"`},
		{[]string{`/\*([^*]|\*+[^*/])*\*+/`, "/", `\*`, "[a-z]"}, "/**/a/*b*/c**//*", `0"/**/" 3"a" 0"/*b*/" 3"c" 2"*" 2"*" 1"/" 1"/" 2"*"`},
		{[]string{`#[^\n]*\n?`, "x"}, "x#x\nx#", `1"x" 0"#x\n" 1"x" 0"#"`},
		{[]string{"a*", "b?"}, "caab", `-1"c" 0"aa" 1"b"`},
		{[]string{"", "()*"}, "ab", `-1"a" -1"b"`},
		{nil, "ab", `-1"a" -1"b"`},
		{[]string{`[^\x00-\xff]`, "b"}, "ab", `-1"a" 1"b"`},
		{[]string{`a[^\x00-\xff]`, `ab[^\x00-\xff]`, "a"}, "abab", `2"a" -1"b" 2"a" -1"b"`},
		{[]string{"."}, "a\n\r\x00\xff", `0"a" -1"\n" 0"\r" 0"\x00" 0"\xff"`},
		{[]string{"[^a]+"}, "\xc3\xa4a\xff\xfe", `0"ä" -1"a" 0"\xff\xfe"`},
		{[]string{`\xc3`, `\xc3\xa4\xa4`}, "\xc3\xa4\xc3\xa4\xa4", `0"\xc3" -1"\xa4" 1"ä\xa4"`},
	} {
		d := built(t, x.texts...)
		holdCut(t, d, x.s, x.want)
		token, end := Next(d, x.s, 0)
		if first := shownPieces([]api.Piece{{Tok: token, Text: x.s[:end]}}); !strings.HasPrefix(x.want, first) {
			t.Errorf("Next of %q is %s, not the first of %s", x.s, first, x.want)
		}
	}
}

// State 0 may have a label, and words may lead back to it; the empty word is not read.
func TestP1602First(t *testing.T) {
	d := api.Dfa{Width: 1, Next: [][]int{{-1}}, Label: []int{3}}
	holdCut(t, d, "ab", `-1"a" -1"b"`)
	d.Next[0][0] = 0
	holdCut(t, d, "ab", `3"ab"`)
	d = api.Dfa{Width: 1, Next: [][]int{{1}, {0}}, Label: []int{3, -1}}
	holdCut(t, d, "a", `-1"a"`)
	holdCut(t, d, "ab", `3"ab"`)
	holdCut(t, d, "abcde", `3"abcd" -1"e"`)
	d.Label = []int{-1, 0}
	holdCut(t, d, "abcd", `0"abc" 0"d"`)
	d.Label = []int{math.MaxInt, 1 << 40}
	holdCut(t, d, "abc", `1099511627776"abc"`)
	holdCut(t, d, "ab", `9223372036854775807"ab"`)
	d.Label = []int{-1, -1}
	holdCut(t, d, "abc", `-1"a" -1"b" -1"c"`)
}

// Each byte by a class and a state of its own, the token of which is not the state's number.
func TestP1602Bytes(t *testing.T) {
	d := api.Dfa{Width: 256, Next: [][]int{nil}, Label: []int{-1}}
	var s []byte
	for b := range 256 {
		d.Class[b] = uint8(b)
		d.Next[0] = append(d.Next[0], 256-b)
		d.Next = append(d.Next, slices.Repeat([]int{-1}, 256))
		d.Label = append(d.Label, 1000+b)
		s = append(s, byte(b))
	}
	for b := range 256 {
		holdNext(t, d, string(s), b, 1255-b, b+1)
	}
	// More bytes lead on from there, to states of other bytes.
	d.Next[256-'a']['b'], d.Next[256-'x']['d'] = 256-'x', 256-'\xff'
	holdNext(t, d, string(s), 'a', 1255-'x', 'a'+2)
	holdNext(t, d, "abd", 0, 1000, 3)
	holdNext(t, d, "abe", 0, 1255-'x', 2)
	holdNext(t, d, "xda", 0, 1000, 2)
}

// Automata and texts of all kinds, at all places, against what the chapter says of each word.
func TestP1602Model(t *testing.T) {
	var r lcg
	read, backed, missed := 0, 0, 0
	for _, d := range dfas(t, &r, 60) {
		see := func(s string) {
			for at := -1; at <= len(s)+1; at++ {
				token, end := modelNext(d, s, at)
				holdNext(t, d, s, at, token, end)
				switch {
				case token == -1:
					missed++
				case end < len(s) && dfa.Run(d, s[at:end+1]) != -1:
					backed++
				default:
					read++
				}
			}
		}
		eachText("ab\x00\xff", 4, see)
		for range 10 {
			see(r.text("ab\x00\xffc", 5+r.below(20), 1+r.below(4)))
		}
	}
	if read < 5000 || backed < 5000 || missed < 5000 {
		t.Error(read, backed, missed)
	}
}

// Pieces are those of the model, from the beginning on; a piece is whole if its text alone is cut into it.
func TestP1603Model(t *testing.T) {
	var r lcg
	whole, part := 0, 0
	for _, d := range dfas(t, &r, 60) {
		see := func(s string) {
			want := modelCut(d, s, modelNext)
			holdCut(t, d, s, shownPieces(want))
			for _, token := range append([]int{-2, -1, 5}, labels...) {
				is := s != "" && len(want) == 1 && want[0].Tok == token
				holdWhole(t, d, token, s, is)
				if is {
					whole++
				} else {
					part++
				}
			}
		}
		eachText("ab\x00\xff", 4, see)
		for range 10 {
			see(r.text("ab\x00\xffc", 5+r.below(20), 1+r.below(4)))
		}
	}
	if whole < 3000 || part < 3000 {
		t.Error(whole, part)
	}
}

func TestP1603Whole(t *testing.T) {
	d := built(t, "a+", "ab", "if", "[f-i]+")
	for _, x := range []struct {
		token int
		text  string
		want  bool
	}{
		{0, "a", true}, {0, "aaa", true}, {1, "ab", true}, {2, "if", true}, {3, "iff", true}, {3, "i", true}, {-1, "b", true}, {-1, "\x00", true},
		{1, "a", false}, {0, "ab", false}, {3, "if", false}, {2, "iff", false}, {-1, "a", false}, {-1, "if", false},
		{1, "aab", false}, {0, "aab", false}, {1, "abab", false}, {-1, "bb", false}, {-1, "ba", false}, {0, "ba", false}, {0, "a ", false},
		{0, "", false}, {-1, "", false}, {-2, "", false}, {-2, "b", false}, {math.MinInt, "b", false}, {4, "a", false}, {4, "b", false}, {math.MaxInt, "a", false},
	} {
		holdWhole(t, d, x.token, x.text, x.want)
	}
	d = built(t, "", "a*")
	holdWhole(t, d, 0, "", false)
	holdWhole(t, d, 1, "", false)
	holdWhole(t, d, 1, "aa", true)
	long := strings.Repeat("a", 1<<20)
	holdWhole(t, d, 1, long, true)
	holdWhole(t, d, 1, long+"b", false)
	holdWhole(t, d, 0, long, false)
}

// Pieces are joined whatever they are: no automaton needs to have made them.
func TestP1603Join(t *testing.T) {
	piece := func(token int, text string) api.Piece { return api.Piece{Tok: token, Text: text} }
	for _, x := range []struct {
		l    []api.Piece
		want string
	}{
		{nil, ""}, {[]api.Piece{piece(0, "")}, ""}, {[]api.Piece{{}, {}, piece(-2, "")}, ""},
		{[]api.Piece{piece(3, "ab")}, "ab"}, {[]api.Piece{piece(-1, "ab"), piece(math.MinInt, ""), piece(math.MaxInt, "\x00\xff"), piece(0, "ab")}, "ab\x00\xffab"},
		{[]api.Piece{piece(-2, "a"), piece(-2, ""), piece(math.MinInt, "b"), piece(-1, "cd"), piece(-2, "e"), piece(64, "f")}, "abcdef"},
		{[]api.Piece{piece(0, ""), piece(0, "b"), piece(0, "a"), piece(0, "")}, "ba"},
	} {
		if got := Join(x.l); got != x.want {
			t.Errorf("Join of %s is %q, not %q", shownPieces(x.l), got, x.want)
		}
	}
	l := slices.Repeat([]api.Piece{piece(1, "abc"), piece(0, "\n")}, 1<<16)
	if Join(l) != strings.Repeat("abc\n", 1<<16) {
		t.Error("many pieces are not joined")
	}
}

// P1604: pieces have all bytes of a text, and none is empty; what is not read is a piece byte by byte.
func TestP1604(t *testing.T) {
	var r lcg
	unread := 0
	for _, d := range dfas(t, &r, 150) {
		for range 6 {
			s := r.text("ab\x00\xffcdx", r.below(1200), 1+r.below(60))
			l := Cut(d, s)
			if Join(l) != s {
				t.Fatalf("the pieces of %.60q are not the text, by %s", s, shown(d))
			}
			for _, p := range l {
				if p.Text == "" || p.Tok < -1 || p.Tok == -1 && len(p.Text) != 1 {
					t.Fatalf("a piece of %.60q is %s, by %s", s, shownPieces([]api.Piece{p}), shown(d))
				}
				if p.Tok == -1 {
					unread++
				}
			}
		}
	}
	if unread < 10000 {
		t.Error("pieces without a token:", unread)
	}
}

// P1605: by the expressions of the tokens no longer word than the piece can be read at its place, and by the first
// token that matches it is read.
func TestP1605(t *testing.T) {
	var r lcg
	for range 250 {
		l := mixedTokens(&r)
		d := automaton(t, l)
		reads := func(w string) int {
			return slices.IndexFunc(l, func(token api.Token) bool { return rxfact.Says(token.Rex, w) })
		}
		s := r.text("ab\xffc", 3+r.below(20), 1+r.below(4))
		at := 0
		for _, p := range Cut(d, s) {
			for end := at + 1; end <= len(s); end++ {
				token, size := reads(s[at:end]), end-at
				if token != -1 && (p.Tok == -1 || size > len(p.Text)) || size == len(p.Text) && token != p.Tok {
					t.Fatalf("at %d of %q is %s, but %q is read as %d, of %v", at, s, shownPieces([]api.Piece{p}), s[at:end], token, l)
				}
			}
			at += len(p.Text)
		}
	}
}

// P1606: what follows a piece is split in the same way when it is split alone.
func TestP1606(t *testing.T) {
	var r lcg
	long := 0
	for _, d := range dfas(t, &r, 60) {
		for range 3 {
			s := r.text("ab\x00\xffcx", r.below(900), 1+r.below(60))
			l := Cut(d, s)
			at := 0
			for i, p := range l {
				token, end := Next(d, s, at)
				if token != p.Tok || end != at+len(p.Text) {
					t.Fatalf("Next of %.60q at %d is %d, %d, not %s, by %s", s, at, token, end, shownPieces(l[i:i+1]), shown(d))
				}
				at = end
				if r.below(10) == 0 && !slices.Equal(Cut(d, s[at:]), l[i+1:]) {
					t.Fatalf("the rest of %.60q from %d on is split in another way, by %s", s, at, shown(d))
				}
				if len(p.Text) > apart {
					long++
				}
			}
			if at != len(s) {
				t.Fatalf("the pieces of %.60q end at %d", s, at)
			}
		}
	}
	if long < 20 {
		t.Error("long pieces:", long)
	}
}

// Long texts, in which words are begun that go far beyond their pieces.
func TestP1602Far(t *testing.T) {
	var r lcg
	far := 0
	for range 700 {
		d := farDfa(&r)
		s := r.text("abc", 200+r.below(1500), 1+r.below(100))
		want := modelCut(d, s, farNext)
		if got := Cut(d, s); !slices.Equal(got, want) {
			t.Fatalf("Cut of %q is %s, not %s, by %s", s, shownPieces(got), shownPieces(want), shown(d))
		}
		for range 5 {
			at := r.below(len(s))
			token, end := farNext(d, s, at)
			holdNext(t, d, s, at, token, end)
			if len(s)-end > apart && dfa.Run(d, s[at:end+apart]) != -1 {
				far++
			}
		}
	}
	if far < 300 {
		t.Error("words that were begun far beyond their pieces:", far)
	}
}

// Words of a length that tells whether they are read: a word that fails says nothing of one that begins behind it,
// though both come by the same places.
func TestP1602Lengths(t *testing.T) {
	for _, x := range []struct {
		d     api.Dfa
		every int
	}{
		{built(t, "(aa)*ab", "a"), 2}, {built(t, "(aaa)*aab", "a"), 3}, {built(t, "(aaaaaaa)*aaaab", "a"), 7}, {built(t, "a*b", "a"), 1},
	} {
		for _, size := range []int{1, 2, 250, 254, 255, 256, 257, 258, 510, 511, 512, 513, 514, 767, 768, 769, 1024, 5000} {
			for _, s := range []string{strings.Repeat("a", size) + "b", strings.Repeat("a", size) + "c" + strings.Repeat("a", size+1) + "b" + strings.Repeat("a", size)} {
				want := modelCut(x.d, s, farNext)
				if got := Cut(x.d, s); !slices.Equal(got, want) {
					t.Errorf("%d a, in words of every %d, are split into %d pieces, not %d", size, x.every, len(got), len(want))
				}
				if !slices.ContainsFunc(want, func(p api.Piece) bool { return p.Tok == 0 }) && size > 7 {
					t.Errorf("%d a, in words of every %d, have no word", size, x.every)
				}
			}
		}
	}
}

// Texts of which each byte begins a word that would be as long as the rest: to read the rest for each byte would take
// longer than a test may.
func TestP1602Long(t *testing.T) {
	const size = 1 << 20
	run := strings.Repeat("a", size)
	d := built(t, "a", "a*b", "(aa)*c")
	for _, end := range []string{"", "x", "b", "c"} {
		l := Cut(d, run+end)
		want := map[string]int{"": size, "x": size + 1, "b": 1, "c": 1}[end]
		if len(l) != want || Join(l) != run+end {
			t.Errorf("%d a and %q are split into %d pieces, not %d", size, end, len(l), want)
		}
	}
	// Without a token, and without an end: states from which nothing is read any more.
	d = api.Dfa{Width: 1, Next: [][]int{{1}, {2}, {2}}, Label: []int{-1, 0, -1}}
	if l := Cut(d, run); len(l) != size || l[size-1] != (api.Piece{Tok: 0, Text: "a"}) {
		t.Errorf("%d a are split into %d pieces", size, len(l))
	}
	d.Label[1] = -1
	if l := Cut(d, run); len(l) != size || l[0] != (api.Piece{Tok: -1, Text: "a"}) {
		t.Errorf("%d a are split into %d pieces", size, len(l))
	}
	// Quotation marks of which each would begin a text that ends nowhere.
	d = built(t, `"([^"\\]|\\.)*"`, `\\`, `[^"\\]`)
	s := strings.Repeat(`\"`, size/2)
	if l := Cut(d, s); len(l) != size || Join(l) != s || shownPieces(l[size-2:]) != `1"\\" -1"\""` {
		t.Errorf("%d quotation marks are split into %d pieces", size/2, len(l))
	}
}

// As many states as there may be, and words through all of them.
func TestP1602States(t *testing.T) {
	states := api.MaxStates
	d := api.Dfa{Width: 1, Label: slices.Repeat([]int{-1}, states)}
	for state := range states {
		d.Next = append(d.Next, []int{(state + 1) % states})
	}
	d.Label[states-1] = 9
	s := strings.Repeat("a", 20*states)
	holdNext(t, d, s, 0, 9, len(s)-1)
	holdNext(t, d, s[:states-2], 0, -1, 1)
	holdNext(t, d, s[:states-1], 0, 9, states-1)
	holdNext(t, d, s, len(s)-states, 9, len(s)-1)
	if l := Cut(d, s); len(l) != 2 || len(l[0].Text) != len(s)-1 || l[1].Tok != -1 {
		t.Error("pieces:", len(l))
	}
	var l []api.Token
	for first := range 15 {
		w := string([]byte{byte(first)}) + strings.Repeat("z", 255)
		l = append(l, api.Token{Rex: rx.Text(w)}, api.Token{Rex: rx.Text(w[:100])})
	}
	d = automaton(t, l)
	for first := range 15 {
		w := string([]byte{byte(first)}) + strings.Repeat("z", 255)
		holdNext(t, d, w, 0, 2*first, 256)
		holdNext(t, d, w[:255], 0, 2*first+1, 100)
		holdNext(t, d, w[:99], 0, -1, 1)
		holdNext(t, d, w+w, 256, 2*first, 512)
	}
}
