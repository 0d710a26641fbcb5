package munch

import (
	"math"
	"slices"
	"testing"

	"facsimile/api"
	"facsimile/dfa"
)

// wrongDfas are automata like d, which is Right, that are not Right, by what is wrong.
func wrongDfas(r *lcg, d api.Dfa) map[string]api.Dfa {
	states := len(d.Next)
	at, class := r.below(states), r.below(d.Width)
	return map[string]api.Dfa{
		"nothing":             {},
		"empty lists":         {Class: d.Class, Width: d.Width, Next: [][]int{}, Label: []int{}},
		"a class too many":    with(d, func(d *api.Dfa) { d.Width++ }),
		"a class too few":     with(d, func(d *api.Dfa) { d.Width-- }),
		"a negative width":    with(d, func(d *api.Dfa) { d.Width = math.MinInt }),
		"no states":           with(d, func(d *api.Dfa) { d.Next, d.Label = nil, nil }),
		"a Label too few":     with(d, func(d *api.Dfa) { d.Label = d.Label[:states-1] }),
		"a Label too many":    with(d, func(d *api.Dfa) { d.Label = append(d.Label, 0) }),
		"no Labels":           with(d, func(d *api.Dfa) { d.Label = nil }),
		"no rows":             with(d, func(d *api.Dfa) { d.Next = nil }),
		"a row too short":     with(d, func(d *api.Dfa) { d.Next[at] = d.Next[at][:d.Width-1] }),
		"a row too long":      with(d, func(d *api.Dfa) { d.Next[at] = append(d.Next[at], -1) }),
		"a row of nothing":    with(d, func(d *api.Dfa) { d.Next[at] = nil }),
		"a state too great":   with(d, func(d *api.Dfa) { d.Next[at][class] = states }),
		"a huge state":        with(d, func(d *api.Dfa) { d.Next[at][class] = math.MaxInt }),
		"a state below -1":    with(d, func(d *api.Dfa) { d.Next[at][class] = -2 }),
		"a negative state":    with(d, func(d *api.Dfa) { d.Next[at][class] = math.MinInt }),
		"a Label below -1":    with(d, func(d *api.Dfa) { d.Label[at] = -2 }),
		"a negative Label":    with(d, func(d *api.Dfa) { d.Label[at] = math.MinInt }),
		"byte 0 not of 0":     with(d, func(d *api.Dfa) { d.Class[0] = 1 }),
		"a class left out":    with(d, func(d *api.Dfa) { d.Class[255], d.Width = 255, 256 }),
		"a class of no width": with(d, func(d *api.Dfa) { d.Class[255] = uint8(d.Width) }),
	}
}

// With automata that are not Right nothing is read, whatever the text, the place and the piece; but pieces are joined.
func TestP1601Wrong(t *testing.T) {
	var r lcg
	for range 60 {
		for name, wrong := range wrongDfas(&r, mixedDfa(&r)) {
			if dfa.Right(wrong) {
				t.Fatal(name, "is Right")
			}
			for _, s := range []string{"", "a", "b", "\x00", "\xff", "ab\xff\x00ab"} {
				for _, at := range []int{math.MinInt, -1, 0, 1, len(s) - 1, len(s), len(s) + 1, math.MaxInt} {
					if token, end := Next(wrong, s, at); token != -1 || end != 0 {
						t.Errorf("%s: Next of %q at %d is %d, %d", name, s, at, token, end)
					}
				}
				if l := Cut(wrong, s); len(l) != 0 {
					t.Errorf("%s: Cut of %q is %s", name, s, shownPieces(l))
				}
				for _, token := range append([]int{math.MinInt, -2, -1}, labels...) {
					if Whole(wrong, api.Piece{Tok: token, Text: s}) {
						t.Errorf("%s: %q is the whole token %d", name, s, token)
					}
				}
			}
		}
	}
}

// Arguments are not changed, nor what is behind their ends.
func TestP1601Arguments(t *testing.T) {
	var r lcg
	for range 200 {
		d := mixedDfa(&r)
		for state, row := range d.Next {
			longer := append(slices.Clone(row), 5, 6, 7)
			d.Next[state] = longer[:len(row)]
		}
		d.Label = append(slices.Clone(d.Label), 5, 6, 7)[:len(d.Label)]
		d.Next = append(slices.Clone(d.Next), []int{8}, []int{9})[:len(d.Next)]
		kept := clone(d)
		s := r.text("ab\x00\xffx", r.below(700), 1+r.below(30))
		l := Cut(d, s)
		Next(d, s, r.below(700))
		Whole(d, api.Piece{Tok: labels[r.below(len(labels))], Text: s})
		if !same(d, kept) {
			t.Fatal("an automaton was changed")
		}
		for _, row := range append(d.Next, d.Label) {
			if behind := row[len(row) : len(row)+3]; !slices.Equal(behind, []int{5, 6, 7}) {
				t.Fatal("what is behind a list was changed:", behind)
			}
		}
		longer := append(slices.Clone(l), api.Piece{Tok: 5, Text: "behind"})
		before := slices.Clone(longer)
		if Join(longer[:len(l)]) != s || !slices.Equal(longer, before) {
			t.Fatal("pieces were changed")
		}
	}
}

// Results share no memory with each other, nor with what made them.
func TestP1601Memory(t *testing.T) {
	var r lcg
	for _, d := range dfas(t, &r, 30) {
		s := r.text("ab\x00\xffx", r.below(700), 1+r.below(30))
		want := modelCut(d, s, farNext)
		l, other := Cut(d, s), Cut(d, s)
		spare := other[:cap(other)]
		for i := range spare {
			spare[i] = api.Piece{Tok: -7, Text: "spoilt"}
		}
		again := Cut(d, s)
		for _, row := range append(d.Next, d.Label) {
			for i := range row {
				row[i] = -7
			}
		}
		if !slices.Equal(l, want) || !slices.Equal(again, want) {
			t.Fatalf("the pieces of %q were changed", s)
		}
	}
}

// The same arguments give the same results, whatever was called before; nil and empty lists are the same.
func TestP1601Pure(t *testing.T) {
	var r lcg
	for range 200 {
		d, other := farDfa(&r), farDfa(&r)
		s := r.text("abc", 600, 20)
		at := r.below(600)
		l := Cut(d, s)
		token, end := Next(d, s, at)
		whole := Whole(d, l[0])
		for _, text := range []string{s, s[1:], s + "b", s[:300]} {
			Cut(other, text)
			Next(other, text, at)
			Whole(other, l[0])
			Cut(d, text)
		}
		againToken, againEnd := Next(clone(d), s, at)
		if !slices.Equal(Cut(clone(d), s), l) || againToken != token || againEnd != end || Whole(clone(d), l[0]) != whole {
			t.Fatal("calls answer otherwise again")
		}
	}
	if len(Cut(built(t, "a"), "")) != 0 || Join(nil) != "" || Join([]api.Piece{}) != "" {
		t.Error("there is something of nothing")
	}
}
