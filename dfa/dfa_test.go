package dfa

import (
	"math"
	"slices"
	"strings"
	"testing"

	"facsimile/api"
	"facsimile/fuse"
)

// Arguments are not changed, nor what is behind their ends.
func TestP1401Arguments(t *testing.T) {
	var r lcg
	for range 200 {
		whole := mixedNet(&r, 1+r.below(7))
		n := whole
		n.First = n.First[:len(n.First)/2]
		n.Follow = slices.Clone(n.Follow)
		for i := range n.Follow {
			n.Follow[i] = n.Follow[i][:len(n.Follow[i])/2]
		}
		kept := cloneNet(whole)
		d, _, _ := Build(n, api.MaxStates)
		spoil(d)
		Build(n, 1)
		if !sameNet(whole, kept) {
			t.Fatal("Build changed its argument")
		}
	}
	for range 200 {
		whole := mixedDfa(&r)
		d := whole
		d.Next, d.Label = d.Next[:(len(d.Next)+1)/2], d.Label[:(len(d.Next)+1)/2]
		kept := clone(whole)
		for _, x := range []api.Dfa{whole, d} {
			Right(x)
			Go(x, 0, 'a')
			Run(x, "abc")
			Label(x, 0)
		}
		if !same(whole, kept) {
			t.Fatal("an argument was changed")
		}
	}
}

// spoil overwrites all that d has, up to the capacities of its lists.
func spoil(d api.Dfa) {
	for _, row := range d.Next {
		for i := range row[:cap(row)] {
			row[:cap(row)][i] = -7
		}
	}
	for i := range d.Label[:cap(d.Label)] {
		d.Label[:cap(d.Label)][i] = -7
	}
	for i := range d.Next[:cap(d.Next)] {
		d.Next[:cap(d.Next)][i] = nil
	}
}

// No two lists of an automaton share memory, nor do the automata of two calls, nor a net and its automaton.
func TestP1401Memory(t *testing.T) {
	n := netOf(t, "a+", "ab", "(a|b)*abb", "[c-e]+")
	want, _ := modelBuild(n)
	list := func(d api.Dfa, i int) []int {
		return append([][]int{d.Label}, d.Next...)[i]
	}
	for i := range 1 + len(want.Next) {
		d, _, _ := Build(n, api.MaxStates)
		other, _, _ := Build(n, api.MaxStates)
		for k := range cap(list(d, i)) {
			list(d, i)[:cap(list(d, i))][k] = -7
		}
		for j := range 1 + len(want.Next) {
			if j != i && !slices.Equal(list(d, j), list(want, j)) {
				t.Errorf("the lists %d and %d share memory", i, j)
			}
		}
		again, _, _ := Build(n, api.MaxStates)
		if !same(other, want) || !same(again, want) {
			t.Errorf("the list %d is shared with other results", i)
		}
	}
	d, _, _ := Build(n, api.MaxStates)
	for i := range n.Sets {
		n.Sets[i], n.Of[i], n.Last[i] = api.Set{}, 99, false
		for j := range n.Follow[i] {
			n.Follow[i][j] = 0
		}
	}
	for i := range n.First {
		n.First[i] = 0
	}
	if !same(d, want) {
		t.Error("an automaton was changed with its net")
	}
}

// The same arguments give the same results, whatever was called before; nil and empty lists are the same.
func TestP1401Pure(t *testing.T) {
	var r lcg
	for range 60 {
		n := fuse.Fuse(mixedTokens(&r))
		first, _, _ := Build(n, api.MaxStates)
		kept := clone(first)
		Build(mixedNet(&r, 5), 1+r.below(20))
		Build(n, 1)
		second, _, _ := Build(n, api.MaxStates)
		if !same(first, kept) || !same(second, kept) {
			t.Fatal("Build answers otherwise again")
		}
		m := mixedDfa(&r)
		at, b := r.below(len(m.Next)), byte(r.below(256))
		once := []int{Go(m, at, b), Run(m, "ab\x00"), Label(m, at)}
		Go(kept, 0, 'a')
		Run(kept, "abc")
		Label(kept, 0)
		if again := []int{Go(m, at, b), Run(m, "ab\x00"), Label(m, at)}; !Right(m) || !slices.Equal(once, again) {
			t.Fatal("calls answer otherwise again")
		}
	}
	filled, bare := netOf(t, "ab", "c"), netOf(t, "ab", "c")
	for i := range filled.Follow {
		if len(filled.Follow[i]) == 0 {
			filled.Follow[i], bare.Follow[i] = []int{}, nil
		}
	}
	a, _, _ := Build(filled, 9)
	b, _, _ := Build(bare, 9)
	if !same(a, b) {
		t.Error("nil and empty lists are not the same")
	}
	for _, d := range []api.Dfa{{}, {Next: [][]int{}, Label: []int{}}, {Width: 1, Next: [][]int{}, Label: []int{}}, {Width: 1}} {
		if Right(d) || Go(d, 0, 0) != -1 || Run(d, "") != -1 || Run(d, "a") != -1 || Label(d, 0) != -1 {
			t.Error("an automaton of no states is Right:", d.Width, d.Next == nil)
		}
	}
}

func TestP1402Right(t *testing.T) {
	var r lcg
	for range 300 {
		d := mixedDfa(&r)
		if !Right(d) {
			t.Fatal("not Right")
		}
		for name, wrong := range wrongDfas(&r, d) {
			if Right(wrong) || modelRight(wrong) {
				t.Fatalf("%s is Right: width %d, %d states", name, wrong.Width, len(wrong.Next))
			}
		}
		for name, right := range rightDfas(&r, d) {
			if !Right(right) || !modelRight(right) {
				t.Fatalf("%s is not Right: width %d, %d states", name, right.Width, len(right.Next))
			}
		}
	}
}

// with is d, a part of whose copy was changed.
func with(d api.Dfa, change func(d *api.Dfa)) api.Dfa {
	c := clone(d)
	change(&c)
	return c
}

// wrongDfas are automata like d, which is Right, that are not Right, by what is wrong.
func wrongDfas(r *lcg, d api.Dfa) map[string]api.Dfa {
	states := len(d.Next)
	at, c := r.below(states), r.below(d.Width)
	l := map[string]api.Dfa{
		"a class too many":    with(d, func(d *api.Dfa) { d.Width++ }),
		"a class too few":     with(d, func(d *api.Dfa) { d.Width-- }),
		"no classes":          with(d, func(d *api.Dfa) { d.Width = 0 }),
		"a negative width":    with(d, func(d *api.Dfa) { d.Width = -d.Width }),
		"a huge width":        with(d, func(d *api.Dfa) { d.Width += 1 << 32 }),
		"no states":           with(d, func(d *api.Dfa) { d.Next, d.Label = nil, nil }),
		"a Label too few":     with(d, func(d *api.Dfa) { d.Label = d.Label[:states-1] }),
		"a Label too many":    with(d, func(d *api.Dfa) { d.Label = append(d.Label, 0) }),
		"no Labels":           with(d, func(d *api.Dfa) { d.Label = nil }),
		"no rows":             with(d, func(d *api.Dfa) { d.Next = nil }),
		"a row too short":     with(d, func(d *api.Dfa) { d.Next[at] = d.Next[at][:d.Width-1] }),
		"a row too long":      with(d, func(d *api.Dfa) { d.Next[at] = append(d.Next[at], -1) }),
		"a row of nothing":    with(d, func(d *api.Dfa) { d.Next[at] = nil }),
		"a state too great":   with(d, func(d *api.Dfa) { d.Next[at][c] = states }),
		"a huge state":        with(d, func(d *api.Dfa) { d.Next[at][c] = math.MaxInt }),
		"a state below -1":    with(d, func(d *api.Dfa) { d.Next[at][c] = -2 }),
		"a negative state":    with(d, func(d *api.Dfa) { d.Next[at][c] = math.MinInt }),
		"a Label below -1":    with(d, func(d *api.Dfa) { d.Label[at] = -2 }),
		"a negative Label":    with(d, func(d *api.Dfa) { d.Label[at] = math.MinInt }),
		"byte 0 not of 0":     with(d, func(d *api.Dfa) { d.Class[0] = 1 }),
		"a class left out":    with(d, func(d *api.Dfa) { d.Class[255], d.Width = 255, 256 }),
		"classes too late":    with(d, func(d *api.Dfa) { d.Class[1], d.Class[2] = 2, 1 }),
		"a class of no width": with(d, func(d *api.Dfa) { d.Class[255] = uint8(d.Width) }),
		"states of no Labels": {Class: d.Class, Width: d.Width, Next: d.Next},
		"Labels of no states": {Class: d.Class, Width: d.Width, Label: d.Label},
	}
	if states > 1 {
		l["a row too few"] = with(d, func(d *api.Dfa) { d.Next = d.Next[:states-1] })
	}
	return l
}

// rightDfas are automata like d that are Right as well.
func rightDfas(r *lcg, d api.Dfa) map[string]api.Dfa {
	states := len(d.Next)
	at, c := r.below(states), r.below(d.Width)
	return map[string]api.Dfa{
		"no state follows":            with(d, func(d *api.Dfa) { d.Next[at][c] = -1 }),
		"the last state follows":      with(d, func(d *api.Dfa) { d.Next[at][c] = states - 1 }),
		"state 0 follows":             with(d, func(d *api.Dfa) { d.Next[at][c] = 0 }),
		"a Label of the initial":      with(d, func(d *api.Dfa) { d.Label[0] = 5 }),
		"a huge Label":                with(d, func(d *api.Dfa) { d.Label[at] = math.MaxInt }),
		"the Label of nothing":        with(d, func(d *api.Dfa) { d.Label[at] = -1 }),
		"a state that is not reached": with(d, func(d *api.Dfa) { d.Next, d.Label = append(d.Next, make([]int, d.Width)), append(d.Label, 0) }),
	}
}

// Any automaton, Right or not, is judged as the definition says.
func TestP1402RightModel(t *testing.T) {
	var r lcg
	for range 3000 {
		d := mixedDfa(&r)
		for range r.below(3) {
			switch at := r.below(len(d.Next)); r.below(6) {
			case 0:
				d.Next[at][r.below(d.Width)] = r.below(12) - 2
			case 1:
				d.Label[at] = r.below(4) - 2
			case 2:
				d.Class[r.below(256)] = uint8(r.below(d.Width + 1))
			case 3:
				d.Class[r.below(4)] = uint8(r.below(4))
			case 4:
				d.Next[at] = append(d.Next[at], -1)[:d.Width+r.below(2)]
			case 5:
				d.Label = append(d.Label, -1)[:len(d.Next)+r.below(2)]
			}
		}
		if got, want := Right(d), modelRight(d); got != want {
			t.Fatalf("Right is %v, not %v, of %v", got, want, d)
		}
		if !Right(d) {
			answersNone(t, "a mixed Dfa", d)
		}
	}
}

// answersNone holds the functions that run to -1, for whatever state.
func answersNone(t *testing.T, name string, d api.Dfa) {
	t.Helper()
	for _, at := range numbers(len(d.Next)) {
		if Go(d, at, 0) != -1 || Go(d, at, 'a') != -1 || Go(d, at, 255) != -1 || Label(d, at) != -1 {
			t.Fatalf("%s answers from the state %d", name, at)
		}
	}
	for _, w := range []string{"", "a", "\x00", "\xff", "abc"} {
		if Run(d, w) != -1 {
			t.Fatalf("%s runs by %q", name, w)
		}
	}
}

// Automata that are not Right have no state, not even the initial one.
func TestP1403Wrong(t *testing.T) {
	var r lcg
	for range 40 {
		for name, d := range wrongDfas(&r, mixedDfa(&r)) {
			answersNone(t, name, d)
		}
	}
	// What is wrong may be far from what is asked.
	d := built(t, strings.Repeat("a", 200), "b")
	d.Next[150][0] = 99999
	answersNone(t, "a wrong row far away", d)
}

func TestP1403Go(t *testing.T) {
	var r lcg
	dfas := []api.Dfa{built(t), built(t, "a"), built(t, "a+", "ab"), built(t, "[^a]*a"), built(t, `\x00\xff`)}
	for range 12 {
		dfas = append(dfas, mixedDfa(&r))
	}
	for _, d := range dfas {
		for _, at := range numbers(len(d.Next)) {
			for b := range 256 {
				want := -1
				if at >= 0 && at < len(d.Next) {
					want = d.Next[at][d.Class[b]]
				}
				if got := Go(d, at, byte(b)); got != want {
					t.Fatalf("from %d by %d: %d, not %d", at, b, got, want)
				}
			}
		}
	}
}

func TestP1403Run(t *testing.T) {
	var r lcg
	for i := range 60 {
		d := mixedDfa(&r)
		if i%3 == 0 {
			d, _, _ = Build(fuse.Fuse(mixedTokens(&r)), api.MaxStates)
		}
		if Run(d, "") != 0 {
			t.Fatal("the empty word leads to", Run(d, ""))
		}
		eachText("ab\x00\xff", 4, func(w string) {
			at := 0
			for i := range len(w) {
				if at >= 0 {
					at = d.Next[at][d.Class[w[i]]]
				}
			}
			if got := Run(d, w); got != at {
				t.Fatalf("%q leads to %d, not to %d", w, got, at)
			}
		})
	}
	d := built(t, "a+", "ab")
	for w, want := range map[string]int{"a": 1, "aa": 2, "ab": 3, "aaaa": 2, "b": -1, "aba": -1, "abaa": -1, "bab": -1, "aab": -1, "\xff": -1} {
		if got := Run(d, w); got != want {
			t.Errorf("%q leads to %d, not to %d", w, got, want)
		}
	}
	if got := Run(d, strings.Repeat("a", 1<<20)); got != 2 {
		t.Error("a long word leads to", got)
	}
	if got := Run(d, strings.Repeat("a", 1<<20)+"b"+strings.Repeat("a", 1<<20)); got != -1 {
		t.Error("a long wrong word leads to", got)
	}
}

func TestP1403Label(t *testing.T) {
	var r lcg
	for range 60 {
		d := mixedDfa(&r)
		for _, at := range numbers(len(d.Next)) {
			want := -1
			if at >= 0 && at < len(d.Next) {
				want = d.Label[at]
			}
			if got := Label(d, at); got != want {
				t.Fatalf("the Label of %d is %d, not %d", at, got, want)
			}
		}
	}
}
