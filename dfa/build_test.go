package dfa

import (
	"math"
	"slices"
	"strings"
	"testing"

	"facsimile/api"
	"facsimile/fuse"
	"facsimile/rx"
	"facsimile/rxfact"
)

// refused holds a call of Build to an error, with nothing beside it.
func refused(t *testing.T, name string, n api.Net, most int, want api.Errno) {
	t.Helper()
	if d, states, e := Build(n, most); e != want || states != 0 || !isZero(d) {
		t.Errorf("Build of %.60s with %d states: %d, %d states, %.300v, not %d", name, most, e, states, d, want)
	}
}

// holds holds what Build answers to the automaton that it must be.
func holds(t *testing.T, name string, n api.Net, most int, want api.Dfa) {
	t.Helper()
	d, states, e := Build(n, most)
	if e != api.OK || states != len(want.Next) || !same(d, want) {
		t.Errorf("Build of %.200s: %d, %d states, %.600v, not %.600v", name, e, states, d, want)
	}
	if !Right(d) {
		t.Errorf("Build of %.200s is not Right", name)
	}
}

// wrongNets are nets that are not Right.
func wrongNets() map[string]api.Net {
	a := []api.Set{setOf("a"), setOf("b")}
	one, no, none := []int{0, 1}, []bool{true, true}, [][]int{nil, nil}
	return map[string]api.Net{
		"an Of too few":               {Sets: a, Of: one[:1], Last: no, Follow: none, First: one},
		"an Of too many":              {Sets: a[:1], Of: one, Last: no[:1], Follow: none[:1], First: one[:1]},
		"a Last too few":              {Sets: a, Of: one, Last: no[:1], Follow: none, First: one},
		"a Follow too few":            {Sets: a, Of: one, Last: no, Follow: none[:1], First: one},
		"no Sets":                     {Of: one, Last: no, Follow: none},
		"a First too great":           {Sets: a, Of: one, Last: no, Follow: none, First: []int{0, 2}},
		"a First too small":           {Sets: a, Of: one, Last: no, Follow: none, First: []int{-1, 0}},
		"a First at the ints' end":    {Sets: a, Of: one, Last: no, Follow: none, First: []int{math.MaxInt}},
		"Firsts that do not increase": {Sets: a, Of: one, Last: no, Follow: none, First: []int{1, 0}},
		"a First twice":               {Sets: a, Of: one, Last: no, Follow: none, First: []int{1, 1}},
		"a Follow that is no spot":    {Sets: a, Of: one, Last: no, Follow: [][]int{nil, {2}}, First: one},
		"a Follow below all":          {Sets: a, Of: one, Last: no, Follow: [][]int{{math.MinInt}, nil}, First: one},
		"a Follow twice":              {Sets: a, Of: one, Last: no, Follow: [][]int{{0, 0}, nil}, First: one},
		"Follows not increasing":      {Sets: a, Of: one, Last: no, Follow: [][]int{nil, {1, 0}}, First: one},
		"a negative Of":               {Sets: a, Of: []int{0, -1}, Last: no, Follow: none, First: one},
		"an Of at the ints' end":      {Sets: a, Of: []int{math.MinInt, 0}, Last: no, Follow: none, First: one},
	}
}

func TestP1402Example(t *testing.T) {
	var of [256]uint8
	of['a'], of['b'] = 1, 2
	want := api.Dfa{Class: of, Width: 3, Next: [][]int{{-1, 1, -1}, {-1, 2, 3}, {-1, 2, -1}, {-1, -1, -1}}, Label: []int{-1, 0, 0, 1}}
	holds(t, "a+ and ab", netOf(t, "a+", "ab"), api.MaxStates, want)
	d := built(t, "a+", "ab")
	if Run(d, "a") != 1 || Run(d, "aa") != 2 || Run(d, "ab") != 3 || Label(d, 3) != 1 {
		t.Error(Run(d, "a"), Run(d, "aa"), Run(d, "ab"), Label(d, 3))
	}
}

func TestP1402Forms(t *testing.T) {
	for name, n := range wrongNets() {
		if fuse.Right(n) {
			t.Errorf("a net with %s is Right", name)
		}
		// A net that is not Right is told ahead of a number of states that is none.
		for _, most := range []int{1, 4, api.MaxStates, 0, -1, api.MaxStates + 1, math.MinInt, math.MaxInt} {
			refused(t, name, n, most, api.ErrForm)
		}
	}
}

func TestP1402Range(t *testing.T) {
	for _, texts := range [][]string{nil, {"a"}, {"a+", "ab"}} {
		n := netOf(t, texts...)
		for _, most := range []int{math.MinInt, -1 << 32, -4096, -1, 0, api.MaxStates + 1, api.MaxStates * 2, 1<<32 + 4, math.MaxInt - 1, math.MaxInt} {
			refused(t, strings.Join(texts, " and "), n, most, api.ErrRange)
		}
	}
	// A number of states that is none is told ahead of there being too many.
	refused(t, "a long word", netOf(t, strings.Repeat("a", 200)), 0, api.ErrRange)
}

// No spots, no first ones, and Sets of nothing and of everything.
func TestP1402Edges(t *testing.T) {
	var none [256]uint8
	alone := api.Dfa{Class: none, Width: 1, Next: [][]int{{-1}}, Label: []int{-1}}
	empty := api.Net{Sets: []api.Set{}, Of: []int{}, Last: []bool{}, Follow: [][]int{}, First: []int{}}
	for _, n := range []api.Net{{}, empty, fuse.Fuse(nil), netOf(t, ""), netOf(t, "()*", "()|()", "")} {
		holds(t, "nothing", n, 1, alone)
		holds(t, "nothing", n, api.MaxStates, alone)
	}
	a := setOf("a")
	holds(t, "a spot that is not first", api.Net{Sets: []api.Set{{}}, Of: []int{0}, Last: []bool{true}, Follow: [][]int{{0}}}, 1, alone)
	holds(t, "a spot of nothing", api.Net{Sets: []api.Set{{}}, Of: []int{0}, Last: []bool{true}, Follow: [][]int{{0}}, First: []int{0}}, 1, alone)
	full := api.Set{math.MaxUint64, math.MaxUint64, math.MaxUint64, math.MaxUint64}
	holds(t, "a spot of everything", api.Net{Sets: []api.Set{full}, Of: []int{7}, Last: []bool{true}, Follow: [][]int{{0}}, First: []int{0}}, 2,
		api.Dfa{Class: none, Width: 1, Next: [][]int{{1}, {1}}, Label: []int{-1, 7}})
	var of [256]uint8
	of['a'] = 1
	// The initial state is the beginning alone: a word that leads to all First spots leads to another state.
	holds(t, "a*", api.Net{Sets: []api.Set{a}, Of: []int{math.MaxInt}, Last: []bool{true}, Follow: [][]int{{0}}, First: []int{0}}, 2,
		api.Dfa{Class: of, Width: 2, Next: [][]int{{-1, 1}, {-1, 1}}, Label: []int{-1, math.MaxInt}})
	// A state where no token is read, and of which none is left.
	holds(t, "a without an end", api.Net{Sets: []api.Set{a}, Of: []int{0}, Last: []bool{false}, Follow: [][]int{nil}, First: []int{0}}, 2,
		api.Dfa{Class: of, Width: 2, Next: [][]int{{-1, 1}, {-1, -1}}, Label: []int{-1, -1}})
	// The class 0 is that of byte 0, and leads somewhere first.
	of = [256]uint8{}
	for b := 1; b < 256; b++ {
		of[b] = 1
	}
	holds(t, "byte 0", netOf(t, `\x00`, `[^\x00]\x00`), 4,
		api.Dfa{Class: of, Width: 2, Next: [][]int{{1, 2}, {-1, -1}, {3, -1}, {-1, -1}}, Label: []int{-1, 0, -1, 1}})
	// Classes of which there are 256, each leading to a state of its own.
	var l []api.Token
	every := api.Dfa{Width: 256, Next: [][]int{nil}, Label: []int{-1}}
	for b := range 256 {
		l = append(l, api.Token{Rex: rx.Set(setOf(string([]byte{byte(b)})))})
		every.Class[b] = uint8(b)
		every.Next[0] = append(every.Next[0], b+1)
		every.Next = append(every.Next, slices.Repeat([]int{-1}, 256))
		every.Label = append(every.Label, b)
	}
	holds(t, "each byte", fuse.Fuse(l), 257, every)
}

// The states are numbered as they are found: from each state on, class by class.
func TestP1402Order(t *testing.T) {
	d := built(t, "ba", "ab", "aa", "c(b|a)", "[ab]c")
	for i, w := range []string{"", "a", "b", "c", "aa", "ab", "ac", "ba", "ca", "cb"} {
		if got := Run(d, w); got != i {
			t.Errorf("%q leads to %d, not to %d", w, got, i)
		}
	}
	if got := Run(d, "bc"); got != Run(d, "ac") {
		t.Errorf("bc leads to %d", got)
	}
}

// Automata of tokens, and of nets that no tokens made, are what the words of P1402 say.
func TestP1402Model(t *testing.T) {
	for _, texts := range [][]string{
		{"a"}, {"a", "a"}, {"a*"}, {"a?b?c?"}, {"(a|b)*abb"}, {"(a|b)*a(a|b)(a|b)(a|b)"}, {"abc", "abd", "ab", "[a-z]+"},
		{"[a-z]+", "if", "else", "[0-9]+", `[\x20\n]+`, `#[^\n]*\n`, "=", "==", ";"},
		{"a[^\\x00-\\xff]", "ab"}, {"()", "a"}, {".", "\\n"}, {"(ab|ba)+", "(a|b)+"},
		{"a(bc)*d", "ab(cb)*", "(abcbc)+"}, {"[^a]", "[^b]", "[^c]"}, {"\\xff\\x00", "\\x00\\xff"},
	} {
		n := netOf(t, texts...)
		want, _ := modelBuild(n)
		holds(t, strings.Join(texts, " and "), n, api.MaxStates, want)
	}
	var r lcg
	for range 400 {
		n := fuse.Fuse(mixedTokens(&r))
		want, _ := modelBuild(n)
		holds(t, "mixed tokens", n, api.MaxStates, want)
	}
	for range 400 {
		n := mixedNet(&r, 1+r.below(7))
		want, _ := modelBuild(n)
		holds(t, "a mixed net", n, api.MaxStates, want)
	}
}

// The states are the lists that fuse.Run says words lead to, and their Labels what fuse.Token says of them.
func TestP1402Fuse(t *testing.T) {
	var r lcg
	for i := range 120 {
		n := fuse.Fuse(mixedTokens(&r))
		if i%2 == 1 {
			n = mixedNet(&r, 1+r.below(6))
		}
		d, _, e := Build(n, api.MaxStates)
		_, lists := modelBuild(n)
		if e != api.OK || len(d.Next) != len(lists) {
			t.Fatalf("%d, %d states, not %d", e, len(d.Next), len(lists))
		}
		eachText("abc\xff", 4, func(w string) {
			at, spots := Run(d, w), fuse.Run(n, w)
			if w == "" && at != 0 || w != "" && (at == -1) != (len(spots) == 0) {
				t.Fatalf("%q leads to %d, and to the spots %v", w, at, spots)
			}
			if w == "" || at == -1 {
				return
			}
			if !slices.Equal(lists[at], spots) || Label(d, at) != fuse.Token(n, spots) {
				t.Fatalf("%q leads to %d with the Label %d, and to the spots %v", w, at, Label(d, at), spots)
			}
		})
	}
}

// wordStates are tokens of which the words, each beginning with a byte of its own, have so many bytes together.
func wordStates(bytes int) []api.Token {
	var l []api.Token
	for first := 0; bytes > 0; first++ {
		long := min(bytes, 256)
		l = append(l, api.Token{Rex: rx.Text(string([]byte{byte(first)}) + strings.Repeat("z", long-1))})
		bytes -= long
	}
	return l
}

// As many states as there may be, and one more.
func TestP1402MaxStates(t *testing.T) {
	n := fuse.Fuse(wordStates(api.MaxStates - 1))
	d, states, e := Build(n, api.MaxStates)
	if e != api.OK || states != api.MaxStates || len(d.Next) != api.MaxStates || !Right(d) {
		t.Fatal(e, states, len(d.Next))
	}
	if at := Run(d, "\x0f"+strings.Repeat("z", 254)); Label(d, at) != 15 {
		t.Error(at, Label(d, at))
	}
	refused(t, "4096 states", n, api.MaxStates-1, api.ErrStates)
	refused(t, "4097 states", fuse.Fuse(wordStates(api.MaxStates)), api.MaxStates, api.ErrStates)
	refused(t, "16385 states", fuse.Fuse(wordStates(4*api.MaxStates)), api.MaxStates, api.ErrStates)
	refused(t, "8192 states", netOf(t, "(a|b)*a"+strings.Repeat("(a|b)", 12)), api.MaxStates, api.ErrStates)
}

// What is refused as soon as there are too many states does not take the time of all of them.
func TestP1402Soon(t *testing.T) {
	refused(t, "2^81 states", netOf(t, "(a|b)*a"+strings.Repeat("(a|b)", 80)), api.MaxStates, api.ErrStates)
	n := netOf(t, "(a|b)*a"+strings.Repeat("(a|b)", 80))
	for _, most := range []int{1, 2, 3, 1000} {
		refused(t, "2^81 states", n, most, api.ErrStates)
	}
}

// Spots that all follow each other, many at once.
func TestP1402Dense(t *testing.T) {
	var bytes []string
	for b := range 256 {
		bytes = append(bytes, string([]byte{byte(b)}))
	}
	var signs [][]api.Rx
	for _, b := range bytes {
		signs = append(signs, rx.Text(b))
	}
	// Of 256 sets an expression has 511 steps, and one more closes it.
	star := signs[0]
	for _, sign := range signs[1:] {
		star = rx.Alt(star, sign)
	}
	star = rx.Plus(star)
	var l []api.Token
	for range 16 {
		l = append(l, api.Token{Rex: star})
	}
	d, states, e := Build(fuse.Fuse(l), 257)
	if e != api.OK || states != 257 || d.Width != 256 {
		t.Fatal(e, states, d.Width)
	}
	for state := range states {
		for c, to := range d.Next[state] {
			if to != c+1 {
				t.Fatalf("state %d, class %d: %d", state, c, to)
			}
		}
		if want := min(state, 1) - 1; d.Label[state] != want {
			t.Fatalf("state %d: %d", state, d.Label[state])
		}
	}
}

// P1404: the Label of a word is the first token whose expression matches it.
func TestP1404(t *testing.T) {
	var r lcg
	lists := [][]api.Token{tokens(t, "a+", "ab"), tokens(t, "ab", "a+"), tokens(t, "abc", "[abc]+", "ab?"), tokens(t, "", "a*", "()"), tokens(t, "c", "c", "c")}
	for range 150 {
		lists = append(lists, mixedTokens(&r))
	}
	for _, l := range lists {
		d, _, e := Build(fuse.Fuse(l), api.MaxStates)
		if e != api.OK {
			t.Fatal(e)
		}
		eachText("abcd", 4, func(w string) {
			want := slices.IndexFunc(l, func(token api.Token) bool { return rxfact.Says(token.Rex, w) })
			if w == "" {
				want = -1
			}
			if got := Label(d, Run(d, w)); got != want {
				t.Fatalf("%q is read as %d, not as %d, of %v", w, got, want, l)
			}
		})
	}
}

func TestP1405(t *testing.T) {
	var r lcg
	nets := []api.Net{{}, netOf(t, "a"), netOf(t, "a+", "ab"), netOf(t, "(a|b)*a(a|b)(a|b)(a|b)(a|b)"), netOf(t, "[a-z]+", "if", "[0-9]+", `"([^"\\]|\\.)*"`)}
	for range 60 {
		nets = append(nets, fuse.Fuse(mixedTokens(&r)), mixedNet(&r, 1+r.below(6)))
	}
	for i, n := range nets {
		d, states, e := Build(n, api.MaxStates)
		if e != api.OK || states != len(d.Next) || states < 1 {
			t.Fatal(i, e, states, len(d.Next))
		}
		for most := 1; most < states; most++ {
			refused(t, "a net", n, most, api.ErrStates)
		}
		for _, most := range []int{states, states + 1, 2 * states} {
			again, count, e := Build(n, most)
			if e != api.OK || count != states || !same(again, d) {
				t.Errorf("the net %d has other states with %d: %d, %d", i, most, e, count)
			}
		}
	}
}
