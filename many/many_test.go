package many

import (
	"math"
	"slices"
	"testing"
)

// holdList holds a list that a call answered against the one that it must be.
func holdList(t *testing.T, got, want []int, call string, arguments ...[]int) {
	t.Helper()
	if !slices.Equal(got, want) {
		t.Errorf("%s of %v: %v, not %v", call, arguments, got, want)
	}
}

// holdBool holds what a call answered against what it must answer.
func holdBool(t *testing.T, got, want bool, call string, arguments ...any) {
	t.Helper()
	if got != want {
		t.Errorf("%s of %v: %v", call, arguments, got)
	}
}

// eachCall calls see with the results of all calls of a, b and n that are lists, after making the other calls too.
func eachCall(a, b []int, n int, see func(call string, result []int)) {
	see("Of", Of(a...))
	see("Union", Union(a, b))
	see("Common", Common(a, b))
	see("Less", Less(a, b))
	Right(a)
	Has(a, n)
	Within(a, b)
	Same(a, b)
	Key(a)
}

// Lists that are not Right, nil and empty ones: every call returns.
func TestP1101Returns(t *testing.T) {
	lists := append(unordered(), nil, []int{}, []int{0}, edges())
	long := make([]int, 100000)
	for i := range long {
		long[i] = i * i % 1009
	}
	lists = append(lists, long)
	for _, a := range lists {
		for _, b := range lists {
			for _, n := range edges() {
				if len(a)+len(b) > 1000 && n != 0 {
					continue
				}
				eachCall(a, b, n, func(string, []int) {})
			}
		}
	}
}

// nil and empty lists are the same.
func TestP1101Nil(t *testing.T) {
	none := [][]int{nil, {}, make([]int, 0, 8)}
	some := []int{-1, 2}
	for _, a := range none {
		holdList(t, Of(a...), nil, "Of", a)
		holdBool(t, Right(a), true, "Right", a)
		holdBool(t, Has(a, 0), false, "Has", a, 0)
		holdList(t, Union(a, some), some, "Union", a, some)
		holdList(t, Less(some, a), some, "Less", some, a)
		holdList(t, Less(a, some), nil, "Less", a, some)
		holdList(t, Common(a, some), nil, "Common", a, some)
		holdBool(t, Within(a, some), true, "Within", a, some)
		holdBool(t, Within(some, a), false, "Within", some, a)
		holdBool(t, Same(a, some), false, "Same", a, some)
		for _, b := range none {
			holdList(t, Union(a, b), nil, "Union", a, b)
			holdList(t, Common(a, b), nil, "Common", a, b)
			holdList(t, Less(a, b), nil, "Less", a, b)
			holdBool(t, Within(a, b), true, "Within", a, b)
			holdBool(t, Same(a, b), true, "Same", a, b)
			if Key(a) != Key(b) {
				t.Errorf("Keys of %v and %v differ", a, b)
			}
		}
	}
}

// Arguments are not changed, nor what is behind their ends, and results share nothing with them.
func TestP1101Memory(t *testing.T) {
	bases := [][]int{{1, 3, 5, 7, 99, 98}, {3, 1, 3, 0, 99, 98}, {2, 3, 4, 7, 99, 98}, {1, 3, 5, 7, 99, 98}}
	for _, base := range bases {
		for _, other := range bases {
			for n := range 5 {
				for m := range 5 {
					wholeA, wholeB := slices.Clone(base), slices.Clone(other)
					eachCall(wholeA[:n], wholeB[:m], 3, func(call string, result []int) {
						for i := range result[:cap(result)] {
							result[:cap(result)][i] = -7
						}
						if !slices.Equal(wholeA, base) || !slices.Equal(wholeB, other) {
							t.Errorf("%s of %v and %v shares memory", call, base[:n], other[:m])
						}
					})
				}
			}
		}
	}
	a, b := []int{1, 2}, []int{2, 3}
	first := [][]int{Of(a...), Union(a, b), Common(a, b), Less(a, b)}
	kept := [][]int{{1, 2}, {1, 2, 3}, {2}, {1}}
	a[0], b[0] = 50, 60
	eachCall([]int{1, 2}, []int{2, 3}, 2, func(_ string, result []int) { result[0] = 70 })
	for i, l := range first {
		holdList(t, l, kept[i], "an earlier call")
	}
}

// The same arguments give the same results, whatever was called before.
func TestP1101Pure(t *testing.T) {
	r := lcg(3)
	for range 50 {
		a, b := Of(mixed(&r, 20, 30)...), Of(mixed(&r, 20, 30)...)
		var once, again [][]int
		eachCall(a, b, 1, func(_ string, result []int) { once = append(once, result) })
		eachCall(b, a, 2, func(string, []int) {})
		eachCall(a, b, 1, func(_ string, result []int) { again = append(again, result) })
		if !slices.EqualFunc(once, again, slices.Equal) || Key(a) != Key(slices.Clone(a)) {
			t.Errorf("calls of %v and %v answer otherwise again", a, b)
		}
	}
}

func TestP1102Of(t *testing.T) {
	holdList(t, Of(3, 1, 3), []int{1, 3}, "Of", []int{3, 1, 3})
	holdList(t, Of(), nil, "Of")
	holdList(t, Of(0), []int{0}, "Of", []int{0})
	holdList(t, Of(math.MaxInt, math.MinInt, 0, math.MaxInt), []int{math.MinInt, 0, math.MaxInt}, "Of the ends")
	eachList([]int{-1, 0, 2, math.MaxInt}, 5, func(l []int) {
		holdList(t, Of(l...), increasing(l), "Of", l)
	})
	r := lcg(1)
	for n := range 200 {
		l := mixed(&r, n, 1+r.below(300))
		holdList(t, Of(l...), increasing(l), "Of", l)
	}
}

func TestP1102Right(t *testing.T) {
	eachList([]int{math.MinInt, -1, 0, math.MaxInt}, 5, func(l []int) {
		holdBool(t, Right(l), slices.Equal(l, increasing(l)), "Right", l)
	})
	for _, l := range unordered() {
		holdBool(t, Right(l), false, "Right", l)
	}
	holdBool(t, Right(edges()), true, "Right", edges())
	long := make([]int, 5000)
	for i := range long {
		long[i] = 2 * i
	}
	for i := 1; i < len(long); i++ {
		for _, wrong := range []int{long[i-1], long[i-1] - 1, math.MinInt} {
			long[i] = wrong
			holdBool(t, Right(long), false, "Right of a long list, wrong at", i)
		}
		long[i] = 2 * i
	}
	holdBool(t, Right(long), true, "Right of a long list")
}

func TestP1102Same(t *testing.T) {
	var lists [][]int
	eachList([]int{-1, 0, 1}, 4, func(l []int) { lists = append(lists, l) })
	for i, a := range lists {
		for j, b := range lists {
			holdBool(t, Same(a, b), i == j, "Same", a, b)
		}
		holdBool(t, Same(a, slices.Clone(a)), true, "Same", a, a)
	}
	for i := range edges() {
		other := edges()
		other[i] ^= 1
		holdBool(t, Same(edges(), other), false, "Same", edges(), other)
		holdBool(t, Same(edges(), edges()[:i]), false, "Same", edges(), edges()[:i])
		holdBool(t, Same(edges()[i+1:], edges()), false, "Same", edges()[i+1:], edges())
	}
}

func TestP1103Has(t *testing.T) {
	all := edges()
	for bits := range 1 << len(all) {
		l := chosen(all, bits)
		for i, n := range all {
			holdBool(t, Has(l, n), bits>>i&1 == 1, "Has", l, n)
		}
		for _, n := range []int{2, -2, 9, 11, 1<<32 - 1} {
			holdBool(t, Has(l, n), false, "Has", l, n)
		}
	}
}

// holdSets holds the calls of two lists that are Right against what is in them.
func holdSets(t *testing.T, a, b []int) {
	t.Helper()
	inA := func(n int) bool { return isIn(a, n) }
	inB := func(n int) bool { return isIn(b, n) }
	notInB := func(n int) bool { return !isIn(b, n) }
	union, common, less := Union(a, b), Common(a, b), Less(a, b)
	holdList(t, union, increasing(slices.Concat(a, b)), "Union", a, b)
	holdList(t, common, those(a, inB), "Common", a, b)
	holdList(t, common, those(b, inA), "Common", a, b)
	holdList(t, less, those(a, notInB), "Less", a, b)
	for _, l := range [][]int{union, common, less} {
		holdBool(t, Right(l), true, "Right", l)
	}
	holdBool(t, Within(a, b), len(those(a, notInB)) == 0, "Within", a, b)
	for _, l := range [][]int{a, b, union, common} {
		holdBool(t, Within(common, l), true, "Within", common, l)
		holdBool(t, Within(l, union), true, "Within", l, union)
	}
}

// eachPair calls see with pairs of lists that are Right: all of a few numbers, the ends of ints among them, and long ones.
func eachPair(see func(a, b []int)) {
	few := []int{math.MinInt, -1, 0, 1, 10, math.MaxInt}
	for bits := range 1 << len(few) {
		for other := range 1 << len(few) {
			see(chosen(few, bits), chosen(few, other))
		}
	}
	r := lcg(7)
	for range 300 {
		most := 1 + r.below(200)
		a, b := increasing(mixed(&r, r.below(80), most)), increasing(mixed(&r, r.below(80), most))
		see(a, b)
		see(a, a)
	}
}

func TestP1103Sets(t *testing.T) {
	a, b := []int{1, 2, 3}, []int{2, 5}
	holdList(t, Less(a, b), []int{1, 3}, "Less", a, b)
	holdList(t, Union(a, b), []int{1, 2, 3, 5}, "Union", a, b)
	holdList(t, Common(a, b), []int{2}, "Common", a, b)
	holdBool(t, Within(a, b), false, "Within", a, b)
	holdBool(t, Within([]int{1, 3}, a), true, "Within", []int{1, 3}, a)
	eachPair(func(a, b []int) { holdSets(t, a, b) })
}

// Key tells any two lists apart, Right or not, that are not the Same.
func TestP1103Key(t *testing.T) {
	seen := map[string][]int{}
	see := func(l []int) {
		key := Key(l)
		if earlier, ok := seen[key]; ok && !slices.Equal(earlier, l) {
			t.Errorf("%v and %v have the key %q", earlier, l, key)
		}
		if Key(slices.Clone(l)) != key {
			t.Errorf("Key of %v is not always %q", l, key)
		}
		seen[key] = l
	}
	eachList([]int{-1, 0, 1, 11, 10, 2, 12, 256, 257, 65536}, 4, see)
	for _, a := range edges() {
		for _, b := range edges() {
			see([]int{a, b})
			see([]int{a, b, a})
		}
		see([]int{a})
	}
	for _, l := range unordered() {
		see(l)
	}
	for n := range 300 {
		see(make([]int, n))
		see([]int{n})
		see([]int{1 << (n % 64), n})
	}
}

// The ways in which numbers of some bytes may run into each other.
func TestP1103KeyWide(t *testing.T) {
	seen := map[string]int{}
	for i := range 64 {
		for _, n := range []int{1 << i, 1<<i - 1, -1 << i, 1<<i + 1} {
			if earlier, ok := seen[Key([]int{n})]; ok && earlier != n {
				t.Errorf("%d and %d have the same key", earlier, n)
			}
			seen[Key([]int{n})] = n
		}
	}
}

func TestP1104Parts(t *testing.T) {
	eachPair(func(a, b []int) {
		common, less := Common(a, b), Less(a, b)
		holdList(t, Union(common, less), a, "Union of Common and Less", a, b)
		holdList(t, Common(common, less), nil, "Common of Common and Less", a, b)
		if len(common)+len(less) != len(a) {
			t.Errorf("Common and Less of %v and %v: %v, %v", a, b, common, less)
		}
		if n := len(Union(a, b)); n != len(a)+len(b)-len(common) {
			t.Errorf("Union of %v and %v has %d elements", a, b, n)
		}
	})
}

func TestP1105Symmetry(t *testing.T) {
	eachPair(func(a, b []int) {
		holdList(t, Union(a, b), Union(b, a), "Union", a, b)
		holdList(t, Common(a, b), Common(b, a), "Common", a, b)
	})
}
