package rxfact

import (
	"math"
	"slices"
	"strings"
	"testing"

	"facsimile/api"
	"facsimile/rx"
	"facsimile/rxtext"
)

// read is the expression of a text.
func read(t *testing.T, s string) []api.Rx {
	t.Helper()
	l, _, e := rxtext.Read(s)
	if e != api.OK {
		t.Fatalf("%q is not the text of an expression: %d", s, e)
	}
	return l
}

// factsOf are what the calls answer of l.
func factsOf(l []api.Rx) facts {
	return facts{Nullable(l), Shortest(l), Longest(l), First(l), Used(l)}
}

// hasFacts holds what the calls answer of l against f.
func hasFacts(t *testing.T, name string, l []api.Rx, f facts) {
	t.Helper()
	if got := factsOf(l); got != f {
		t.Errorf("facts of %s: %v, not %v", name, got, f)
	}
}

// endsAt holds Ends of l in w at at against the ends, and Says of what stands from at on.
func endsAt(t *testing.T, name string, l []api.Rx, w string, at int, ends []int) {
	t.Helper()
	if got := Ends(l, w, at); !slices.Equal(got, ends) {
		t.Errorf("Ends of %s in %.60q at %d: %v, not %v", name, w, at, got, ends)
	}
	if got, want := Says(l, w[at:]), slices.Contains(ends, len(w)); got != want {
		t.Errorf("Says of %s and %.60q: %v", name, w[at:], got)
	}
}

// silent holds that nothing is found of l.
func silent(t *testing.T, name string, l []api.Rx) {
	t.Helper()
	hasFacts(t, name, l, facts{shortest: -1, longest: -1})
	for _, w := range []string{"", "a", "ab", strings.Repeat("a", 256)} {
		for _, at := range []int{-1, 0, 1, len(w), len(w) + 1} {
			if got := Ends(l, w, at); len(got) != 0 {
				t.Errorf("Ends of %s in %q at %d: %v", name, w, at, got)
			}
		}
		if Says(l, w) {
			t.Errorf("%s says %q", name, w)
		}
	}
}

func TestP901NoExpression(t *testing.T) {
	for name, l := range wrong() {
		if rx.Check(l) == api.OK {
			t.Errorf("%s is an expression", name)
		}
		silent(t, name, l)
	}
	for _, s := range texts("ae0.*", 5) {
		if l := steps(s); rx.Check(l) != api.OK {
			silent(t, s, l)
		}
	}
}

func TestP901SameAgain(t *testing.T) {
	eachExpression("abx0e.|*+?", 4, func(s string) {
		l := steps(s)
		hasFacts(t, s+" again", l, factsOf(l))
		for _, w := range texts("ab", 3) {
			endsAt(t, s+" again", l, w, 0, Ends(l, w, 0))
		}
	})
}

// Arguments are not changed, nor what is behind their ends, and results share nothing.
func TestP901Memory(t *testing.T) {
	whole := steps("ab|*c.x|+e?")
	kept := slices.Clone(whole)
	for n := range len(whole) + 1 {
		l := whole[:n]
		first, again := Ends(l, "abcab", 0), Ends(l, "abcab", 0)
		want := slices.Clone(again)
		factsOf(l)
		Says(l, "abc")
		for i := range first[:cap(first)] {
			first[:cap(first)][i] = -7
		}
		if !slices.Equal(again, want) || !slices.Equal(Ends(l, "abcab", 0), want) {
			t.Errorf("a result of %d steps was changed with another one: %v", n, again)
		}
		if !slices.Equal(whole, kept) {
			t.Fatalf("steps were changed: %v", whole)
		}
	}
	// What is done to the steps after a call is not seen in its result.
	l := steps("ab|*")
	ends := Ends(l, "abc", 0)
	l[0] = api.Rx{Kind: 99}
	if !slices.Equal(ends, []int{0, 1, 2}) {
		t.Error("a result was changed with an argument:", ends)
	}
}

func TestP903Examples(t *testing.T) {
	l := read(t, "(a|b)*c")
	hasFacts(t, "(a|b)*c", l, facts{false, 1, -2, setOf("abc"), setOf("abc")})
	endsAt(t, "(a|b)*c", l, "abcc", 0, []int{3})
	l = read(t, `a|[^\x00-\xff]b`)
	hasFacts(t, `a|[^\x00-\xff]b`, l, facts{false, 1, 1, setOf("a"), setOf("a")})
}

func TestP902Words(t *testing.T) {
	for _, x := range []struct {
		rex, w string
		at     int
		ends   []int
	}{
		{"a", "a", 0, []int{1}},
		{"a", "aa", 0, []int{1}},
		{"a", "b", 0, nil},
		{"a", "", 0, nil},
		{"a", "ba", 1, []int{2}},
		{"a", "ab", 1, nil},
		{"a", "a", 1, nil},
		{"()", "", 0, []int{0}},
		{"()", "a", 0, []int{0}},
		{"()", "a", 1, []int{1}},
		{"a*", "aaab", 0, []int{0, 1, 2, 3}},
		{"a*", "aaab", 2, []int{2, 3}},
		{"a*", "aaab", 3, []int{3}},
		{"a*", "aaab", 4, []int{4}},
		{"a+", "aaab", 0, []int{1, 2, 3}},
		{"a+", "aaab", 3, nil},
		{"a?", "aaab", 0, []int{0, 1}},
		{"(aa)*", "aaaaa", 0, []int{0, 2, 4}},
		{"(aa|aaa)*", "aaaaa", 0, []int{0, 2, 3, 4, 5}},
		{"(aaa|aaaaa)+", "aaaaaaaaaa", 1, []int{4, 6, 7, 9, 10}},
		{"ab|abc|a", "abcd", 0, []int{1, 2, 3}},
		{"(a|ab)(c|bcd)(d*)", "abcd", 0, []int{3, 4}},
		{"(a*)*", "aab", 0, []int{0, 1, 2}},
		{"(a?)+", "aab", 0, []int{0, 1, 2}},
		{"(a*b*)*", "abcab", 0, []int{0, 1, 2}},
		{"a|[^\\x00-\\xff]b", "ab", 0, []int{1}},
		{"([^\\x00-\\xff])*", "ab", 0, []int{0}},
		{"([^\\x00-\\xff])?b", "b", 0, []int{1}},
		{"([^\\x00-\\xff])+", "ab", 0, nil},
		{".*", "a\nb", 0, []int{0, 1}},
		{"[\\x80-\\xff]+", "\u00e9a", 0, []int{1, 2}},
		{"[\\x80-\\xff]+", "\u00e9a", 1, []int{2}},
		{"\\x00\\xff", "\x00\xff", 0, []int{2}},
		{"/\\*([^*]|\\*+[^*/])*\\*+/", "/* a **/ b */", 0, []int{8}},
	} {
		endsAt(t, x.rex, read(t, x.rex), x.w, x.at, x.ends)
	}
}

func TestP902NoPlace(t *testing.T) {
	for _, rex := range []string{"", "a", "a*", "b*", ".*"} {
		l := read(t, rex)
		for _, w := range []string{"", "a", "aaa"} {
			for _, at := range []int{-1, -2, len(w) + 1, len(w) + 2, math.MinInt, math.MaxInt, -len(w) - 1, 1 << 32} {
				if got := Ends(l, w, at); len(got) != 0 {
					t.Errorf("Ends of %q in %q at %d: %v", rex, w, at, got)
				}
			}
		}
	}
}

func TestP902Bytes(t *testing.T) {
	for b := range 256 {
		l, not := []api.Rx{{Kind: api.RxSet, Set: span(byte(b), byte(b))}}, []api.Rx{{Kind: api.RxSet, Set: span(0, 255)}}
		not[0].Set[b/64] &^= 1 << (b % 64)
		for c := range 256 {
			w := string([]byte{byte(c)})
			if Says(l, w) != (b == c) || Says(not, w) != (b != c) {
				t.Errorf("the set of %d and the byte %d", b, c)
			}
		}
		hasFacts(t, "one byte", l, facts{false, 1, 1, span(byte(b), byte(b)), span(byte(b), byte(b))})
		hasFacts(t, "all other bytes", not, facts{false, 1, 1, not[0].Set, not[0].Set})
	}
}

// All small expressions, with all short texts, from each place on.
func TestP902SmallExpressions(t *testing.T) {
	seen := 0
	all := texts("ab", 4)
	eachExpression("abx0e.|*+?", 5, func(s string) {
		seen++
		l := steps(s)
		said := words(l, 4)
		for _, w := range all {
			var ends []int
			for i := range len(w) + 1 {
				if said[w[:i]] {
					ends = append(ends, i)
				}
			}
			endsAt(t, s, l, w, 0, ends)
		}
		if Nullable(l) != said[""] {
			t.Errorf("Nullable of %s: %v", s, Nullable(l))
		}
		for _, w := range []string{"abba", "aab", "bbb"} {
			for at, r := 0, stands(l, w); at <= len(w); at++ {
				endsAt(t, s, l, w, at, r.ends(at))
			}
		}
	})
	if seen < 4000 {
		t.Error("expressions:", seen)
	}
}

// Mixed expressions of more steps, and longer texts, at all places.
func TestP902MixedExpressions(t *testing.T) {
	var r lcg
	some := 0
	for n := range 900 {
		s := mixed(&r, "aabbcxyy0e..|||*+?", 3+n/10)
		l := steps(s)
		for range 4 {
			w := make([]byte, r.below(12))
			for i := range w {
				w[i] = "abc"[r.below(3)]
			}
			rel := stands(l, string(w))
			for at := range len(w) + 1 {
				endsAt(t, s, l, string(w), at, rel.ends(at))
				some += len(rel.ends(at))
			}
		}
	}
	if some < 10000 {
		t.Error("ends:", some)
	}
}

// As many sets as steps may have: each of the 256 positions counts.
func TestP902ManySets(t *testing.T) {
	every := make([]byte, 256)
	for b := range every {
		every[b] = byte(b)
	}
	w := string(every)
	l := rx.Text(w)
	hasFacts(t, "all bytes", l, facts{false, 256, 256, span(0, 0), span(0, 255)})
	endsAt(t, "all bytes", l, "x"+w+w, 1, []int{257})
	endsAt(t, "all bytes but the last", l, w[:255]+"x", 0, nil)
	star := rx.Star(l)
	hasFacts(t, "all bytes, any number of times", star, facts{true, 0, -2, span(0, 0), span(0, 255)})
	endsAt(t, "all bytes, any number of times", star, w+w+w[:255], 0, []int{0, 256, 512})
	var parts [][]api.Rx
	for b := range 256 {
		parts = append(parts, rx.Text(w[b:b+1]))
	}
	alt := rx.Plus(rx.Alt(parts...))
	hasFacts(t, "any bytes", alt, facts{false, 1, -2, span(0, 255), span(0, 255)})
	if ends := Ends(alt, w+w, 0); len(ends) != 512 || ends[0] != 1 || ends[511] != 512 || !Says(alt, w) {
		t.Error("Ends of any bytes:", ends)
	}
	// The last byte of the word tells how many bytes it has.
	counted := steps("x*a." + strings.Repeat("x.", 252))
	for n := 250; n < 260; n++ {
		text := strings.Repeat("b", 20) + "a" + strings.Repeat("b", n)
		if Says(counted, text) != (n == 252) {
			t.Errorf("an a and %d bytes", n)
		}
	}
}

// Stars in stars, and texts of many bytes, are read in one go.
func TestP902LongTexts(t *testing.T) {
	const most = api.MaxText
	w := strings.Repeat("a", most)
	for name, s := range map[string]string{
		"stars":         "a" + strings.Repeat("*", 511),
		"pluses":        "a" + strings.Repeat("+", 511),
		"stars of all":  "a" + strings.Repeat("+*?", 170),
		"stars of cats": "a*" + strings.Repeat("b*.*", 127),
		"many ways":     strings.Repeat("a?", 128) + strings.Repeat(".", 127) + "*",
		"many a":        "a" + strings.Repeat("a|", 255) + "+",
	} {
		l := steps(s)
		ends := Ends(l, w, 0)
		if n := len(ends); n < most || ends[n-1] != most || !Says(l, w) || Says(l, w+"c") || ends[0] > 1 {
			t.Errorf("%s: %d ends", name, n)
		}
		if ends := Ends(l, w, most-2); !slices.Equal(ends[len(ends)-2:], []int{most - 1, most}) {
			t.Errorf("%s: near the end, %v", name, ends)
		}
	}
	endsAt(t, "a word at the end", steps("a*b."), w+"b"+w, 0, []int{most + 1})
	endsAt(t, "a word at the end", steps("a*b."), w+"b"+w, most, []int{most + 1})
}

// Each part is taken once, by the step that it is an operand of: what is left behind by a step would be an operand of
// a later one.
func TestP903EachPartOnce(t *testing.T) {
	sign := func(s string) func(a string) string { return func(a string) string { return a + s } }
	signs := func(s string) func(a, b string) string { return func(a, b string) string { return a + b + s } }
	eachExpression("ae.|*+?", 6, func(s string) {
		got, ok := evaluate(steps(s), operations[string]{
			set:   func(api.Set) string { return "a" },
			empty: func() string { return "e" },
			cat:   signs("."), alt: signs("|"), star: sign("*"), plus: sign("+"), opt: sign("?"),
		})
		if got != s || !ok {
			t.Errorf("the steps of %s are evaluated as those of %s, %v", s, got, ok)
		}
	})
	hasFacts(t, "aee..", steps("aee.."), facts{false, 1, 1, setOf("a"), setOf("a")})
	endsAt(t, "aee..", steps("aee.."), "aa", 0, []int{1})
}

func TestP903Facts(t *testing.T) {
	none := facts{shortest: -1, longest: -1}
	for _, x := range []struct {
		rex string
		f   facts
	}{
		{"", facts{true, 0, 0, api.Set{}, api.Set{}}},
		{"a", facts{false, 1, 1, setOf("a"), setOf("a")}},
		{"ab", facts{false, 2, 2, setOf("a"), setOf("ab")}},
		{"a|bcd", facts{false, 1, 3, setOf("ab"), setOf("abcd")}},
		{"a?", facts{true, 0, 1, setOf("a"), setOf("a")}},
		{"a?b", facts{false, 1, 2, setOf("ab"), setOf("ab")}},
		{"a?b?c", facts{false, 1, 3, setOf("abc"), setOf("abc")}},
		{"ab?c", facts{false, 2, 3, setOf("a"), setOf("abc")}},
		{"a*", facts{true, 0, -2, setOf("a"), setOf("a")}},
		{"a+", facts{false, 1, -2, setOf("a"), setOf("a")}},
		{"(abc)+", facts{false, 3, -2, setOf("a"), setOf("abc")}},
		{"ab*", facts{false, 1, -2, setOf("a"), setOf("ab")}},
		{"a*|b", facts{true, 0, -2, setOf("ab"), setOf("ab")}},
		{"()*", facts{true, 0, 0, api.Set{}, api.Set{}}},
		{"()+", facts{true, 0, 0, api.Set{}, api.Set{}}},
		{"()?", facts{true, 0, 0, api.Set{}, api.Set{}}},
		{"(()|())*", facts{true, 0, 0, api.Set{}, api.Set{}}},
		{"(a|)+", facts{true, 0, -2, setOf("a"), setOf("a")}},
		{`[^\x00-\xff]`, none},
		{`[^\x00-\xff]+`, none},
		{`[^\x00-\xff]*`, facts{true, 0, 0, api.Set{}, api.Set{}}},
		{`[^\x00-\xff]?`, facts{true, 0, 0, api.Set{}, api.Set{}}},
		{`a[^\x00-\xff]`, none},
		{`[^\x00-\xff]a`, none},
		{`a*[^\x00-\xff]`, none},
		{`[^\x00-\xff]a*`, none},
		{`(a[^\x00-\xff])+`, none},
		{`(a[^\x00-\xff])*`, facts{true, 0, 0, api.Set{}, api.Set{}}},
		{`(a*[^\x00-\xff])?b`, facts{false, 1, 1, setOf("b"), setOf("b")}},
		{`a*[^\x00-\xff]|b`, facts{false, 1, 1, setOf("b"), setOf("b")}},
		{`[^\x00-\xff]|[^\x00-\xff]`, none},
		{`[^\x00-\xff]|()`, facts{true, 0, 0, api.Set{}, api.Set{}}},
		{`()[^\x00-\xff]`, none},
		{".", facts{false, 1, 1, read(t, ".")[0].Set, read(t, ".")[0].Set}},
		{`[\x80-\xff]\x00`, facts{false, 2, 2, span(128, 255), api.Set{1, 0, math.MaxUint64, math.MaxUint64}}},
	} {
		hasFacts(t, x.rex, read(t, x.rex), x.f)
	}
}

func TestP903SmallExpressions(t *testing.T) {
	eachExpression("aby0e.|*+?", 5, func(s string) {
		l := steps(s)
		hasFacts(t, s, l, wantFacts(l))
	})
	eachExpression("a0e.|*", 7, func(s string) {
		l := steps(s)
		hasFacts(t, s, l, wantFacts(l))
	})
	// Sets of many bytes; without a sign that repeats, no word has more than two bytes.
	eachExpression("h1.|?", 3, func(s string) {
		l := steps(s)
		hasFacts(t, s, l, factsIn(words(l, 2)))
	})
}

// Lengths of expressions of as many steps as there may be.
func TestP903ManySteps(t *testing.T) {
	a := setOf("a")
	for _, x := range []struct {
		s string
		f facts
	}{
		{"a" + strings.Repeat("*", 511), facts{true, 0, -2, a, a}},
		{"a" + strings.Repeat("+", 511), facts{false, 1, -2, a, a}},
		{"a" + strings.Repeat("?", 511), facts{true, 0, 1, a, a}},
		{"e" + strings.Repeat("*", 511), facts{true, 0, 0, api.Set{}, api.Set{}}},
		{"0" + strings.Repeat("+", 511), facts{shortest: -1, longest: -1}},
		{"a" + strings.Repeat("a.", 255), facts{false, 256, 256, a, a}},
		{"a" + strings.Repeat("a|", 255), facts{false, 1, 1, a, a}},
		{"a" + strings.Repeat("a.", 255) + "*", facts{true, 0, -2, a, a}},
		{"a" + strings.Repeat("a.", 255) + "+", facts{false, 256, -2, a, a}},
		{strings.Repeat("a", 256) + strings.Repeat(".", 255), facts{false, 256, 256, a, a}},
		{strings.Repeat("a?", 170) + strings.Repeat(".", 169), facts{true, 0, 170, a, a}},
		{"e" + strings.Repeat("b?.", 100) + strings.Repeat("a.", 100), facts{false, 100, 200, setOf("ab"), setOf("ab")}},
		{"a" + strings.Repeat("b.", 254) + "0.", facts{shortest: -1, longest: -1}},
		{strings.Repeat("a", 255) + "0" + strings.Repeat(".", 255), facts{shortest: -1, longest: -1}},
	} {
		hasFacts(t, x.s, steps(x.s), x.f)
	}
}

// RxAlt matches what either operand matches, RxStar the empty word and concatenations of words of its operand.
func TestP904Operators(t *testing.T) {
	var small []string
	eachExpression("ab0e.|*+?", 3, func(s string) { small = append(small, s) })
	all := texts("ab", 3)
	for _, s := range small {
		l := steps(s)
		star, plus, opt := rx.Star(l), rx.Plus(l), rx.Opt(l)
		for _, w := range all {
			// A concatenation begins with a word that has bytes, unless it is empty itself.
			many := w == ""
			for i := 1; i <= len(w); i++ {
				many = many || Says(l, w[:i]) && Says(star, w[i:])
			}
			if Says(star, w) != many {
				t.Errorf("RxStar of %s and %q: %v", s, w, !many)
			}
			if want := w != "" && many || w == "" && Says(l, ""); Says(plus, w) != want {
				t.Errorf("RxPlus of %s and %q: %v", s, w, !want)
			}
			if want := w == "" || Says(l, w); Says(opt, w) != want {
				t.Errorf("RxOpt of %s and %q: %v", s, w, !want)
			}
		}
		for _, u := range small {
			m := steps(u)
			alt, cat := rx.Alt(l, m), rx.Cat(l, m)
			for _, w := range all {
				if want := Says(l, w) || Says(m, w); Says(alt, w) != want {
					t.Errorf("RxAlt of %s and %s and %q: %v", s, u, w, !want)
				}
				both := false
				for _, i := range Ends(l, w, 0) {
					both = both || slices.Contains(Ends(m, w, i), len(w))
				}
				if Says(cat, w) != both {
					t.Errorf("RxCat of %s and %s and %q: %v", s, u, w, !both)
				}
			}
		}
	}
}

// bounded holds the word w of l against the facts of l.
func bounded(t *testing.T, s string, f facts, w string) {
	t.Helper()
	if len(w) < f.shortest || f.shortest < 0 || f.longest != -2 && len(w) > f.longest || w == "" && !f.null {
		t.Errorf("%s says %q: shortest %d, longest %d, nullable %v", s, w, f.shortest, f.longest, f.null)
	}
	if w != "" && !in(f.first, w[0]) {
		t.Errorf("%s says %q, which does not begin with a byte of First", s, w)
	}
	for i := range len(w) {
		if !in(f.used, w[i]) {
			t.Errorf("%s says %q, and the byte %d is not in Used", s, w, w[i])
		}
	}
}

func TestP905Bounds(t *testing.T) {
	var r lcg
	said := 0
	for n := range 600 {
		s := mixed(&r, "aabbcxyy0e..|||*+?", 3+n)
		if len(s) > 512 {
			continue
		}
		l := steps(s)
		f := factsOf(l)
		for range 4 {
			w := make([]byte, 1+r.below(40))
			for i := range w {
				w[i] = "abcd"[r.below(3+r.below(2))]
			}
			for at := range len(w) {
				for _, end := range Ends(l, string(w), at) {
					said++
					bounded(t, s, f, string(w[at:end]))
				}
			}
		}
	}
	if said < 10000 {
		t.Error("words:", said)
	}
}
