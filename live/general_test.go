package live

import (
	"math"
	"slices"
	"testing"

	"facsimile/api"
	"facsimile/dfa"
)

// wrongDfas are automata like d, which is Right, that are not Right, by what is wrong.
func wrongDfas(r *lcg, d api.Dfa) map[string]api.Dfa {
	states := len(d.Next)
	at, class := r.below(states), r.below(d.Width)
	return map[string]api.Dfa{
		"nothing":             {},
		"empty lists":         {Class: d.Class, Width: d.Width, Next: [][]int{}, Label: []int{}},
		"a class too many":    with(d, func(d *api.Dfa) { d.Width++ }),
		"a class too few":     with(d, func(d *api.Dfa) { d.Width-- }),
		"no classes":          with(d, func(d *api.Dfa) { d.Width = 0 }),
		"a negative width":    with(d, func(d *api.Dfa) { d.Width = math.MinInt }),
		"no states":           with(d, func(d *api.Dfa) { d.Next, d.Label = nil, nil }),
		"a Label too few":     with(d, func(d *api.Dfa) { d.Label = d.Label[:states-1] }),
		"a Label too many":    with(d, func(d *api.Dfa) { d.Label = append(d.Label, 0) }),
		"no Labels":           with(d, func(d *api.Dfa) { d.Label = nil }),
		"no rows":             with(d, func(d *api.Dfa) { d.Next = nil }),
		"a row too short":     with(d, func(d *api.Dfa) { d.Next[at] = d.Next[at][:d.Width-1] }),
		"a row too long":      with(d, func(d *api.Dfa) { d.Next[at] = append(d.Next[at], -1) }),
		"a row of nothing":    with(d, func(d *api.Dfa) { d.Next[at] = nil }),
		"a state too great":   with(d, func(d *api.Dfa) { d.Next[at][class] = states }),
		"a huge state":        with(d, func(d *api.Dfa) { d.Next[at][class] = math.MaxInt }),
		"a state below -1":    with(d, func(d *api.Dfa) { d.Next[at][class] = -2 }),
		"a negative state":    with(d, func(d *api.Dfa) { d.Next[at][class] = math.MinInt }),
		"a Label below -1":    with(d, func(d *api.Dfa) { d.Label[at] = -2 }),
		"a negative Label":    with(d, func(d *api.Dfa) { d.Label[at] = math.MinInt }),
		"byte 0 not of 0":     with(d, func(d *api.Dfa) { d.Class[0] = 1 }),
		"a class left out":    with(d, func(d *api.Dfa) { d.Class[255], d.Width = 255, 256 }),
		"a class of no width": with(d, func(d *api.Dfa) { d.Class[255] = uint8(d.Width) }),
	}
}

// Automata that are not Right have no states and no words.
func TestP1501Wrong(t *testing.T) {
	var r lcg
	for range 100 {
		d := mixedDfa(&r)
		for d.Width > 255 {
			d = mixedDfa(&r)
		}
		for name, wrong := range wrongDfas(&r, d) {
			if dfa.Right(wrong) {
				t.Fatal(name, "is Right")
			}
			if len(Reached(wrong)) != 0 || len(Alive(wrong)) != 0 || !isZero(Trim(wrong)) || len(Tokens(wrong)) != 0 {
				t.Errorf("%s: %v, %v, %s, %v", name, Reached(wrong), Alive(wrong), shown(Trim(wrong)), Tokens(wrong))
			}
			for _, token := range append([]int{-2, -1, math.MinInt, 4, 65}, labels...) {
				if w, is := Example(wrong, token); w != "" || is {
					t.Errorf("%s: the Example of %d is %q, %v", name, token, w, is)
				}
			}
		}
	}
}

// Arguments are not changed, nor what is behind their ends.
func TestP1501Arguments(t *testing.T) {
	var r lcg
	for range 300 {
		whole := mixedDfa(&r)
		d := whole
		half := (len(d.Next) + 1) / 2
		d.Next, d.Label = d.Next[:half], d.Label[:half]
		for state, row := range d.Next {
			for class, next := range row {
				if next >= half {
					d.Next[state][class] = half - 1
				}
			}
			// Behind each row there is room that is not the row's.
			longer := append(slices.Clone(row), 5, 6, 7)
			d.Next[state] = longer[:len(row)]
		}
		kept := clone(whole)
		for _, x := range []api.Dfa{whole, d} {
			Reached(x)
			Alive(x)
			spoil(Trim(x))
			Tokens(x)
			for _, token := range labels {
				Example(x, token)
			}
		}
		if !same(whole, kept) {
			t.Fatal("an argument was changed")
		}
		for _, row := range d.Next {
			if behind := row[len(row) : len(row)+3]; !slices.Equal(behind, []int{5, 6, 7}) {
				t.Fatal("what is behind a row was changed:", behind)
			}
		}
	}
}

// spoil overwrites all that d has, up to the capacities of its lists.
func spoil(d api.Dfa) {
	for _, row := range d.Next {
		for i := range row[:cap(row)] {
			row[:cap(row)][i] = -7
		}
	}
	for i := range d.Label[:cap(d.Label)] {
		d.Label[:cap(d.Label)][i] = -7
	}
	for i := range d.Next[:cap(d.Next)] {
		d.Next[:cap(d.Next)][i] = nil
	}
}

// No two lists of a trimmed automaton share memory, nor do the results of two calls, nor an automaton and what it is
// trimmed to.
func TestP1501Memory(t *testing.T) {
	list := func(d api.Dfa, i int) []int {
		return append([][]int{d.Label}, d.Next...)[i]
	}
	for _, d := range []api.Dfa{built(t, "a+", "ab", "(a|b)*abb"), built(t, "a"), built(t, `ab[^\x00-\xff]`, "ac"), chain(9, true)} {
		want, argument := modelTrim(d), clone(d)
		for i := range 1 + len(want.Next) {
			trimmed, other := Trim(d), Trim(d)
			for k := range cap(list(trimmed, i)) {
				list(trimmed, i)[:cap(list(trimmed, i))][k] = -7
			}
			for j := range 1 + len(want.Next) {
				if j != i && !slices.Equal(list(trimmed, j), list(want, j)) {
					t.Errorf("the lists %d and %d share memory", i, j)
				}
			}
			if !same(other, want) || !same(Trim(d), want) || !same(d, argument) {
				t.Errorf("the list %d is shared", i)
			}
		}
		trimmed, reached, alive, read := Trim(d), Reached(d), Alive(d), Tokens(d)
		kept := [][]bool{slices.Clone(reached), slices.Clone(alive)}
		tokens := slices.Clone(read)
		other := [][]bool{Reached(d), Alive(d)}
		for _, l := range other {
			for i := range l[:cap(l)] {
				l[:cap(l)][i] = i%2 == 0
			}
		}
		again := Tokens(d)
		for i := range again[:cap(again)] {
			again[:cap(again)][i] = -7
		}
		spoil(d)
		if !same(trimmed, want) || !slices.Equal(reached, kept[0]) || !slices.Equal(alive, kept[1]) || !slices.Equal(read, tokens) {
			t.Error("results were changed with their argument, or with other results")
		}
	}
}

// The same arguments give the same results, whatever was called before; nil and empty lists are the same.
func TestP1501Pure(t *testing.T) {
	var r lcg
	for range 200 {
		d := thinDfa(&r)
		reached, alive, trimmed, read := Reached(d), Alive(d), Trim(d), Tokens(d)
		other := mixedDfa(&r)
		Reached(other)
		Alive(other)
		Trim(other)
		Tokens(other)
		if !slices.Equal(Reached(d), reached) || !slices.Equal(Alive(d), alive) || !same(Trim(d), trimmed) || !slices.Equal(Tokens(d), read) {
			t.Fatal("calls answer otherwise again")
		}
		for _, token := range labels {
			w, is := Example(d, token)
			Example(other, token)
			holdExample(t, d, token, w, is)
			holdExample(t, clone(d), token, w, is)
		}
	}
	for _, d := range []api.Dfa{{Width: 1}, {Width: 1, Next: [][]int{}, Label: []int{}}, {Next: [][]int{}}, {Label: []int{}}} {
		if len(Reached(d))+len(Alive(d))+len(Tokens(d)) > 0 || !isZero(Trim(d)) {
			t.Error("an automaton of no states has some")
		}
	}
}
