package spot

import (
	"math"
	"slices"
	"strings"
	"testing"

	"facsimile/api"
	"facsimile/rx"
	"facsimile/rxfact"
	"facsimile/rxtext"
)

// parse is the expression of a text.
func parse(t *testing.T, s string) []api.Rx {
	t.Helper()
	l, _, e := rxtext.Read(s)
	if e != api.OK {
		t.Fatalf("%q is not the text of an expression: %d", s, e)
	}
	return l
}

// hasFacts holds what the calls answer of l against f.
func hasFacts(t *testing.T, name string, l []api.Rx, f facts) {
	t.Helper()
	if got := factsOf(l); !got.same(f) {
		t.Errorf("%.60s: %v, not %v", name, got, f)
	}
}

// places are numbers that are no spot of an expression with n spots.
func places(n int) []int {
	return []int{-1, -2, -64, -256, -n, n, n + 1, n + 63, n + 64, n + 256, n + 1<<32, math.MaxInt, math.MinInt, math.MinInt + 1}
}

func TestP1001NoExpression(t *testing.T) {
	silent := func(name string, l []api.Rx) {
		hasFacts(t, name, l, facts{})
		for _, i := range slices.Concat(places(1), places(256), []int{0, 1, 255}) {
			if got := Follow(l, i); len(got) != 0 {
				t.Errorf("Follow of %s and %d: %v", name, i, got)
			}
		}
	}
	for name, l := range wrong() {
		if rx.Check(l) == api.OK {
			t.Errorf("%s is an expression", name)
		}
		silent(name, l)
	}
	n := 0
	eachText("ae0.*", 5, func(s string) {
		if l := steps(s); rx.Check(l) != api.OK {
			n++
			silent(s, l)
		}
	})
	if n < 3000 {
		t.Error("lists that are no expressions:", n)
	}
}

// eachText calls see with all texts of up to n of the signs.
func eachText(signs string, n int, see func(s string)) {
	l := []string{""}
	for from := 0; from < len(l); from++ {
		see(l[from])
		for i := range len(signs) {
			if len(l[from]) < n {
				l = append(l, l[from]+signs[i:i+1])
			}
		}
	}
}

// Arguments are not changed, nor what is behind their ends, and results share nothing.
func TestP1001Memory(t *testing.T) {
	whole := steps("ab|*c.x|+e?0.")
	kept := slices.Clone(whole)
	for n := range len(whole) + 1 {
		l := whole[:n]
		f, again, want := factsOf(l), factsOf(l), factsOf(l)
		for _, list := range slices.Concat([][]int{f.first, f.last}, f.follow) {
			for i := range list[:cap(list)] {
				list[:cap(list)][i] = -7
			}
		}
		for i := range f.sets[:cap(f.sets)] {
			f.sets[:cap(f.sets)][i] = setOf("z")
		}
		if !again.same(want) || !factsOf(l).same(want) {
			t.Errorf("results of %d steps were changed with others: %v", n, again)
		}
		if !slices.Equal(whole, kept) {
			t.Fatalf("steps were changed: %v", whole)
		}
	}
	l := steps("ab|")
	f := factsOf(l)
	l[0] = api.Rx{Kind: 99}
	if !f.same(facts{[]api.Set{setOf("a"), setOf("b")}, []int{0, 1}, []int{0, 1}, make([][]int, 2), false}) {
		t.Error("results were changed with an argument:", f)
	}
}

func TestP1002Example(t *testing.T) {
	hasFacts(t, "(a|b)*c", parse(t, "(a|b)*c"), facts{
		[]api.Set{setOf("a"), setOf("b"), setOf("c")}, []int{0, 1, 2}, []int{2}, [][]int{{0, 1, 2}, {0, 1, 2}, nil}, false,
	})
}

func TestP1002Facts(t *testing.T) {
	a, b, c := setOf("a"), setOf("b"), setOf("c")
	none := api.Set{}
	for _, x := range []struct {
		rex string
		f   facts
	}{
		{"", facts{free: true}},
		{"()*", facts{free: true}},
		{"()+", facts{free: true}},
		{"()?|()()", facts{free: true}},
		{"a", facts{[]api.Set{a}, []int{0}, []int{0}, [][]int{nil}, false}},
		{"a?", facts{[]api.Set{a}, []int{0}, []int{0}, [][]int{nil}, true}},
		{"a*", facts{[]api.Set{a}, []int{0}, []int{0}, [][]int{{0}}, true}},
		{"a+", facts{[]api.Set{a}, []int{0}, []int{0}, [][]int{{0}}, false}},
		{"aa", facts{[]api.Set{a, a}, []int{0}, []int{1}, [][]int{{1}, nil}, false}},
		{"a|a", facts{[]api.Set{a, a}, []int{0, 1}, []int{0, 1}, [][]int{nil, nil}, false}},
		{"(a|)b", facts{[]api.Set{a, b}, []int{0, 1}, []int{1}, [][]int{{1}, nil}, false}},
		{"a(|b)", facts{[]api.Set{a, b}, []int{0}, []int{0, 1}, [][]int{{1}, nil}, false}},
		{"ab?c", facts{[]api.Set{a, b, c}, []int{0}, []int{2}, [][]int{{1, 2}, {2}, nil}, false}},
		{"a?b?c?", facts{[]api.Set{a, b, c}, []int{0, 1, 2}, []int{0, 1, 2}, [][]int{{1, 2}, {2}, nil}, true}},
		{"(a?b?)+", facts{[]api.Set{a, b}, []int{0, 1}, []int{0, 1}, [][]int{{0, 1}, {0, 1}}, true}},
		{"(ab)*c", facts{[]api.Set{a, b, c}, []int{0, 2}, []int{2}, [][]int{{1}, {0, 2}, nil}, false}},
		{"a(b*c)*", facts{[]api.Set{a, b, c}, []int{0}, []int{0, 2}, [][]int{{1, 2}, {1, 2}, {1, 2}}, false}},
		// Whatever a Set is, also if it has no byte, it is a spot like others.
		{`[^\x00-\xff]`, facts{[]api.Set{none}, []int{0}, []int{0}, [][]int{nil}, false}},
		{`a[^\x00-\xff]+b`, facts{[]api.Set{a, none, b}, []int{0}, []int{2}, [][]int{{1}, {1, 2}, nil}, false}},
		{`[^\x00-\xff]?a|b`, facts{[]api.Set{none, a, b}, []int{0, 1, 2}, []int{1, 2}, [][]int{{1}, nil, nil}, false}},
		{`[\x80-\xff]*`, facts{[]api.Set{{2: math.MaxUint64, 3: math.MaxUint64}}, []int{0}, []int{0}, [][]int{{0}}, true}},
	} {
		hasFacts(t, x.rex, parse(t, x.rex), x.f)
	}
}

func TestP1002NoSpot(t *testing.T) {
	for name, l := range map[string][]api.Rx{
		"no spot": rx.Empty(), "a": steps("a"), "a+": steps("a+"), "a*b|+": steps("a*b|+"),
		"64 spots":  rx.Plus(steps("a" + strings.Repeat("a|", 63))),
		"256 spots": rx.Plus(steps("a" + strings.Repeat("a|", 255))),
	} {
		for _, i := range places(count(l)) {
			if i < 0 || i >= count(l) {
				if got := Follow(l, i); len(got) != 0 {
					t.Errorf("Follow of %s and %d: %v", name, i, got)
				}
			}
		}
	}
}

// All small expressions, held against all of their spellings that can show something.
func TestP1002SmallExpressions(t *testing.T) {
	seen := 0
	see := func(s string) {
		seen++
		l := steps(s)
		hasFacts(t, s, l, factsIn(l))
	}
	eachExpression("ax0e.|*+?", 5, see)
	eachExpression("ae.|*+?", 6, see)
	eachExpression("a.|*?", 8, see)
	if seen < 12000 {
		t.Error("expressions:", seen)
	}
}

// upTo are the numbers from lo to hi.
func upTo(lo, hi int) []int {
	var l []int
	for i := lo; i <= hi; i++ {
		l = append(l, i)
	}
	return l
}

// allTo is n times the numbers from lo to hi.
func allTo(n, lo, hi int) [][]int {
	l := make([][]int, n)
	for i := range l {
		l[i] = upTo(lo, hi)
	}
	return l
}

// Expressions of as many steps, and of as many spots, as there may be.
func TestP1002ManySteps(t *testing.T) {
	next, rest := make([][]int, 256), make([][]int, 256)
	for i := range 255 {
		next[i], rest[i] = upTo(i+1, i+1), upTo(i+1, 255)
	}
	round := append(slices.Clone(next[:255]), []int{0})
	for _, x := range []struct {
		s string
		f facts
	}{
		{"a" + strings.Repeat("*", 511), facts{nil, []int{0}, []int{0}, [][]int{{0}}, true}},
		{"a" + strings.Repeat("+", 511), facts{nil, []int{0}, []int{0}, [][]int{{0}}, false}},
		{"a" + strings.Repeat("?", 511), facts{nil, []int{0}, []int{0}, [][]int{nil}, true}},
		{"e" + strings.Repeat("+", 511), facts{free: true}},
		{"a" + strings.Repeat("a.", 255), facts{nil, []int{0}, []int{255}, next, false}},
		{strings.Repeat("a", 256) + strings.Repeat(".", 255), facts{nil, []int{0}, []int{255}, next, false}},
		{"a" + strings.Repeat("a.", 255) + "+", facts{nil, []int{0}, []int{255}, round, false}},
		{"a" + strings.Repeat("a.", 255) + "*", facts{nil, []int{0}, []int{255}, round, true}},
		{"a" + strings.Repeat("a|", 255), facts{nil, upTo(0, 255), upTo(0, 255), make([][]int, 256), false}},
		{strings.Repeat("a", 256) + strings.Repeat("|", 255) + "*", facts{nil, upTo(0, 255), upTo(0, 255), allTo(256, 0, 255), true}},
		{strings.Repeat("a?", 170) + strings.Repeat(".", 169) + "+", facts{nil, upTo(0, 169), upTo(0, 169), allTo(170, 0, 169), true}},
		{"e" + strings.Repeat("a?.", 170), facts{nil, upTo(0, 169), upTo(0, 169), cut(rest, 170), true}},
		{strings.Repeat("a", 200) + strings.Repeat("|", 99) + strings.Repeat(".", 100), facts{nil, []int{0}, upTo(100, 199), cut(slices.Concat(next[:99], [][]int{upTo(100, 199)}, make([][]int, 100)), 200), false}},
	} {
		l := steps(x.s)
		x.f.sets = setsOf(l)
		hasFacts(t, x.s, l, x.f)
	}
}

// cut are the first n lists of l, with the numbers below n alone.
func cut(l [][]int, n int) [][]int {
	short := make([][]int, n)
	for i := range short {
		for _, p := range l[i] {
			if p < n {
				short[i] = append(short[i], p)
			}
		}
	}
	return short
}

// The Sets of spots are those of the steps, in their order, each of 256.
func TestP1002Sets(t *testing.T) {
	var parts [][]api.Rx
	var want []api.Set
	for b := range 256 {
		want = append(want, setOf(string([]byte{byte(b)})))
		parts = append(parts, rx.Set(want[b]))
	}
	for name, l := range map[string][]api.Rx{"cat": rx.Cat(parts...), "alt": rx.Star(rx.Alt(parts...))} {
		if got := Sets(l); !slices.Equal(got, want) {
			t.Errorf("Sets of a %s: %v", name, got)
		}
	}
	if got := Sets(steps("10|0.1*.")); !slices.Equal(got, []api.Set{sets['1'], {}, {}, sets['1']}) {
		t.Error("Sets of all and of no bytes:", got)
	}
}

// A sequence of spots is a spelling exactly as First, Last, Follow and Free tell it.
func TestP1003Spellings(t *testing.T) {
	signs := "\x00\x01\x02"
	yes, no := 0, 0
	eachExpression("a0e.|*+?", 5, func(s string) {
		l := steps(s)
		f, want := factsOf(l), spelled(l, 0, 4)
		eachText(signs[:count(l)], 4, func(w string) {
			if f.spells(w) != want[w] {
				t.Errorf("%q as a spelling of %s: %v", w, s, !want[w])
			}
			if want[w] {
				yes++
			} else {
				no++
			}
		})
	})
	if yes < 8000 || no < 8000 {
		t.Error("spellings, and others:", yes, no)
	}
}

// An expression matches the words of its spellings, and no others.
func TestP1003Words(t *testing.T) {
	eachExpression("abx0e.|*+?", 4, func(s string) {
		l := steps(s)
		f := factsOf(l)
		eachText("ab", 4, func(w string) {
			if want := rxfact.Says(l, w); f.says(w) != want {
				t.Errorf("%s and %q: %v", s, w, !want)
			}
		})
	})
	var r lcg
	said := 0
	for n := range 700 {
		l := steps(mixed(&r, "aabbcxyy0e..|||*+?", 3+n/2))
		f := factsOf(l)
		for range 4 {
			w := make([]byte, r.below(8))
			for i := range w {
				w[i] = "abc"[r.below(3)]
			}
			for at := range len(w) {
				want := rxfact.Says(l, string(w[at:]))
				if f.says(string(w[at:])) != want {
					t.Errorf("%v and %q: %v", l, w[at:], !want)
				}
				if want {
					said++
				}
			}
		}
	}
	if said < 500 {
		t.Error("words:", said)
	}
}

// In long expressions too, each spot of First and Last, and each two that follow each other, are in a spelling; and
// sequences are spellings as they tell it.
func TestP1003MixedExpressions(t *testing.T) {
	var r lcg
	pairs := 0
	for n := range 60 {
		s := mixed(&r, "aabbcxyy00e..|||*+?", 3+8*n)
		l := steps(s)
		if len(l) > api.MaxRx {
			continue
		}
		f, own := factsOf(l), spotted(l)
		says := func(w string) {
			if !rxfact.Says(own, w) {
				t.Errorf("%q is no spelling of %s", w, s)
			}
		}
		ends := make([]string, len(f.sets))
		for i := range ends {
			ends[i] = f.pathToEnd(i)
		}
		for _, i := range f.first {
			says(ends[i])
		}
		for _, i := range f.last {
			says(f.path(f.first, i))
		}
		for i, after := range f.follow {
			begin := f.path(f.first, i)
			// Of many that follow, some 8 are tried.
			for k := 0; k < len(after); k += 1 + len(after)/8 {
				pairs++
				says(begin + ends[after[k]])
			}
			for range 4 {
				j := r.below(len(f.sets))
				if w := begin + ends[j]; rxfact.Says(own, w) != slices.Contains(after, j) {
					t.Errorf("%d behind %d in %s, and %q", j, i, s, w)
				}
			}
		}
		if rxfact.Nullable(own) != f.free {
			t.Errorf("Free of %s: %v", s, f.free)
		}
	}
	if pairs < 10000 {
		t.Error("pairs of spots:", pairs)
	}
}

// pathToEnd is a shortest way by f from the spot i to one of Last.
func (f facts) pathToEnd(i int) string {
	best := ""
	for _, to := range f.last {
		if w := f.path([]int{i}, to); w != "" && (best == "" || len(w) < len(best)) {
			best = w
		}
	}
	return best
}

// moved are the numbers of l, each n greater.
func moved(l []int, n int) []int {
	var all []int
	for _, i := range l {
		all = append(all, i+n)
	}
	return all
}

// In a RxCat, each First of the second part is in Follow of each Last of the first part; and nothing else follows that
// does not follow in the parts.
func TestP1004Concatenation(t *testing.T) {
	var small []string
	eachExpression("a0e.|*+?", 3, func(s string) { small = append(small, s) })
	var r lcg
	for n := range 30 {
		small = append(small, mixed(&r, "abx0e..|*+?", 5+7*n))
	}
	met := 0
	for _, s := range small {
		a := factsOf(steps(s))
		for _, u := range small {
			both := rx.Cat(steps(s), steps(u))
			if len(both) > api.MaxRx || len(s)+len(u) > 40 && r.below(4) > 0 {
				continue
			}
			b, cat, k := factsOf(steps(u)), factsOf(both), len(a.sets)
			for i := range cat.follow {
				var want []int
				if i < k {
					want = a.follow[i]
				} else {
					want = moved(b.follow[i-k], k)
				}
				if i < k && slices.Contains(a.last, i) {
					want = slices.Concat(want, moved(b.first, k))
					met += len(b.first)
				}
				if !slices.Equal(cat.follow[i], want) {
					t.Errorf("Follow of %d in %s behind %s: %v, not %v", i, u, s, cat.follow[i], want)
				}
			}
		}
	}
	if met < 2000 {
		t.Error("spots that meet:", met)
	}
}
