package dfa

import (
	"math"
	"slices"
	"testing"

	"facsimile/api"
	"facsimile/fuse"
	"facsimile/rx"
	"facsimile/rxtext"
)

// lcg is a row of numbers that look mixed, the same in each run.
type lcg uint64

func (r *lcg) below(n int) int {
	*r = *r*6364136223846793005 + 1442695040888963407
	return int(uint64(*r)>>33) % n
}

// setOf is the set of the bytes of s, by what package api says of sets.
func setOf(s string) api.Set {
	var set api.Set
	for _, b := range []byte(s) {
		set[b/64] |= 1 << (b % 64)
	}
	return set
}

// in reports whether b is in s.
func in(s api.Set, b int) bool {
	return s[b/64]>>(b%64)&1 == 1
}

// tokens are a token for each text of an expression.
func tokens(t *testing.T, texts ...string) []api.Token {
	t.Helper()
	var l []api.Token
	for _, s := range texts {
		rex, _, e := rxtext.Read(s)
		if e != api.OK {
			t.Fatalf("%q is not the text of an expression: %d", s, e)
		}
		l = append(l, api.Token{Rex: rex})
	}
	return l
}

// netOf is the net of a token for each text of an expression.
func netOf(t *testing.T, texts ...string) api.Net {
	t.Helper()
	return fuse.Fuse(tokens(t, texts...))
}

// built is the automaton of the tokens of the texts.
func built(t *testing.T, texts ...string) api.Dfa {
	t.Helper()
	d, _, e := Build(netOf(t, texts...), api.MaxStates)
	if e != api.OK {
		t.Fatalf("%q cannot be built: %d", texts, e)
	}
	return d
}

// mixed is an expression of about so many sets or less, the same for the same numbers.
func mixed(r *lcg, sets int) []api.Rx {
	if sets < 2 {
		leaves := [][]api.Rx{rx.Text("a"), rx.Text("b"), rx.Text("c"), rx.Set(setOf("ab")), rx.Set(setOf("bc")), rx.Set(api.Set{}), rx.Empty()}
		return leaves[r.below(len(leaves))]
	}
	left := 1 + r.below(sets-1)
	a, b := mixed(r, left), mixed(r, sets-left)
	switch r.below(8) {
	case 0:
		return rx.Star(rx.Cat(a, b))
	case 1:
		return rx.Plus(rx.Alt(a, b))
	case 2:
		return rx.Cat(rx.Opt(a), b)
	case 3, 4:
		return rx.Alt(a, b)
	}
	return rx.Cat(a, b)
}

// mixedTokens are one token or more, the same for the same numbers.
func mixedTokens(r *lcg) []api.Token {
	var l []api.Token
	for range 1 + r.below(4) {
		l = append(l, api.Token{Rex: mixed(r, 1+r.below(7))})
	}
	return l
}

// someOf are about one in every so many of the spots, increasing.
func someOf(r *lcg, count, every int) []int {
	var l []int
	for p := range count {
		if r.below(every) == 0 {
			l = append(l, p)
		}
	}
	return l
}

// mixedNet is a net of count spots that no tokens need to have made, the same for the same numbers.
func mixedNet(r *lcg, count int) api.Net {
	sets := []api.Set{{}, setOf("a"), setOf("b"), setOf("ab"), setOf("\x00\x3f\x40\x7f\x80\xbf\xc0\xff"), setOf("ac\xff")}
	numbers := []int{0, 1, 2, 3, 64, 1 << 40, math.MaxInt}
	n := api.Net{First: someOf(r, count, 2)}
	for range count {
		n.Sets = append(n.Sets, sets[r.below(len(sets))])
		n.Of = append(n.Of, numbers[r.below(len(numbers))])
		n.Last = append(n.Last, r.below(2) == 0)
		n.Follow = append(n.Follow, someOf(r, count, 1+r.below(4)))
	}
	return n
}

// chosen are the spots of n that keep chooses, from the least one on.
func chosen(n api.Net, keep func(p int) bool) []int {
	var l []int
	for p := range n.Sets {
		if keep(p) {
			l = append(l, p)
		}
	}
	return l
}

// leadOf is what the byte b leads to: from the list at, or from the beginning.
func leadOf(n api.Net, begin bool, at []int, b int) []int {
	return chosen(n, func(q int) bool {
		follows := func(p int) bool { return slices.Contains(n.Follow[p], q) }
		if begin {
			return in(n.Sets[q], b) && slices.Contains(n.First, q)
		}
		return in(n.Sets[q], b) && slices.ContainsFunc(at, follows)
	})
}

// labelOf is the least token that is read at the spots.
func labelOf(n api.Net, at []int) int {
	label := -1
	for _, p := range at {
		if n.Last[p] && (label == -1 || n.Of[p] < label) {
			label = n.Of[p]
		}
	}
	return label
}

// classesOf are the classes of the bytes that no Set of n tells apart, numbered by their least bytes, which are told
// too.
func classesOf(n api.Net) ([256]uint8, []int) {
	var of [256]uint8
	var least []int
	for b := range 256 {
		c := slices.IndexFunc(least, func(a int) bool {
			return !slices.ContainsFunc(n.Sets, func(s api.Set) bool { return in(s, a) != in(s, b) })
		})
		if c < 0 {
			c = len(least)
			least = append(least, b)
		}
		of[b] = uint8(c)
	}
	return of, least
}

// modelBuild is what P1402 says of the automaton of a net that is Right, and the list of spots of each state.
func modelBuild(n api.Net) (api.Dfa, [][]int) {
	of, least := classesOf(n)
	d := api.Dfa{Class: of, Width: len(least)}
	lists := [][]int{nil}
	for state := 0; state < len(lists); state++ {
		var row []int
		for _, b := range least {
			to := leadOf(n, state == 0, lists[state], b)
			if len(to) == 0 {
				row = append(row, -1)
				continue
			}
			next := 1
			for next < len(lists) && !slices.Equal(lists[next], to) {
				next++
			}
			if next == len(lists) {
				lists = append(lists, to)
			}
			row = append(row, next)
		}
		d.Next = append(d.Next, row)
		d.Label = append(d.Label, labelOf(n, lists[state]))
	}
	return d, lists
}

// modelRight is what the definition says of Right.
func modelRight(d api.Dfa) bool {
	count := 0
	for b, c := range d.Class {
		if int(c) > count || !slices.Contains(d.Class[:b], c) && int(c) != count {
			return false
		}
		if int(c) == count {
			count++
		}
	}
	if d.Width != count || len(d.Next) < 1 || len(d.Next) != len(d.Label) {
		return false
	}
	for i, row := range d.Next {
		if len(row) != count || d.Label[i] < -1 || slices.ContainsFunc(row, func(to int) bool { return to < -1 || to > len(d.Next)-1 }) {
			return false
		}
	}
	return true
}

// same reports whether two automata are equal.
func same(a, b api.Dfa) bool {
	return a.Class == b.Class && a.Width == b.Width && slices.EqualFunc(a.Next, b.Next, slices.Equal) && slices.Equal(a.Label, b.Label)
}

// isZero reports whether d has nothing at all.
func isZero(d api.Dfa) bool {
	return d.Class == [256]uint8{} && d.Width == 0 && len(d.Next) == 0 && len(d.Label) == 0
}

// clone is an automaton that shares nothing with d.
func clone(d api.Dfa) api.Dfa {
	c := api.Dfa{Class: d.Class, Width: d.Width, Label: slices.Clone(d.Label)}
	for _, row := range d.Next {
		c.Next = append(c.Next, slices.Clone(row))
	}
	return c
}

// cloneNet is a net that shares nothing with n, nor what is behind the ends of its lists.
func cloneNet(n api.Net) api.Net {
	c := api.Net{Sets: slices.Clone(n.Sets), Of: slices.Clone(n.Of), Last: slices.Clone(n.Last), First: slices.Clone(n.First)}
	for _, l := range n.Follow {
		c.Follow = append(c.Follow, slices.Clone(l))
	}
	return c
}

// sameNet reports whether two nets are equal.
func sameNet(a, b api.Net) bool {
	return slices.Equal(a.Sets, b.Sets) && slices.Equal(a.Of, b.Of) && slices.Equal(a.Last, b.Last) &&
		slices.EqualFunc(a.Follow, b.Follow, slices.Equal) && slices.Equal(a.First, b.First)
}

// mixedDfa is an automaton that no net needs to have made, the same for the same numbers.
func mixedDfa(r *lcg) api.Dfa {
	var d api.Dfa
	d.Width = 1
	for b := range 256 {
		if b > 0 && d.Width < 256 && r.below(20) == 0 {
			d.Class[b] = uint8(d.Width)
			d.Width++
		} else if b > 0 {
			d.Class[b] = uint8(r.below(d.Width))
		}
	}
	states := 1 + r.below(9)
	for range states {
		var row []int
		for range d.Width {
			row = append(row, r.below(states+1)-1)
		}
		d.Next = append(d.Next, row)
		d.Label = append(d.Label, []int{-1, 0, 1, 63, 1 << 40, math.MaxInt}[r.below(6)])
	}
	return d
}

// numbers are numbers of states that there are and such that there are not, with the ends of the ints.
func numbers(states int) []int {
	l := []int{math.MinInt, math.MinInt + 1, -1 << 32, -256, -2, states, states + 1, states + 1<<32, 1 << 32, math.MaxInt - 1, math.MaxInt}
	for i := -1; i < states; i++ {
		l = append(l, i)
	}
	return l
}

// eachText calls see with all texts of up to n of the signs.
func eachText(signs string, n int, see func(s string)) {
	l := []string{""}
	for from := 0; from < len(l); from++ {
		see(l[from])
		for i := range len(signs) {
			if len(l[from]) < n {
				l = append(l, l[from]+signs[i:i+1])
			}
		}
	}
}
