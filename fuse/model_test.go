package fuse

import (
	"math"
	"slices"
	"strings"
	"testing"

	"facsimile/api"
	"facsimile/rx"
	"facsimile/rxtext"
)

// lcg is a row of numbers that look mixed, the same in each run.
type lcg uint64

func (r *lcg) below(n int) int {
	*r = *r*6364136223846793005 + 1442695040888963407
	return int(uint64(*r)>>33) % n
}

// setOf is the set of the bytes of s, by what package api says of sets.
func setOf(s string) api.Set {
	var set api.Set
	for _, b := range []byte(s) {
		set[b/64] |= 1 << (b % 64)
	}
	return set
}

// in reports whether b is in s.
func in(s api.Set, b byte) bool {
	return s[b/64]>>(b%64)&1 == 1
}

// tokens are a token for each text of an expression.
func tokens(t *testing.T, texts ...string) []api.Token {
	t.Helper()
	var l []api.Token
	for _, s := range texts {
		rex, _, e := rxtext.Read(s)
		if e != api.OK {
			t.Fatalf("%q is not the text of an expression: %d", s, e)
		}
		l = append(l, api.Token{Rex: rex})
	}
	return l
}

// mixed is an expression of about so many sets or less, the same for the same numbers.
func mixed(r *lcg, sets int) []api.Rx {
	if sets < 2 {
		leaves := [][]api.Rx{rx.Text("a"), rx.Text("b"), rx.Text("c"), rx.Set(setOf("ab")), rx.Set(setOf("bc")), rx.Set(api.Set{}), rx.Empty()}
		return leaves[r.below(len(leaves))]
	}
	left := 1 + r.below(sets-1)
	a, b := mixed(r, left), mixed(r, sets-left)
	switch r.below(8) {
	case 0:
		return rx.Star(rx.Cat(a, b))
	case 1:
		return rx.Plus(rx.Alt(a, b))
	case 2:
		return rx.Cat(rx.Opt(a), b)
	case 3, 4:
		return rx.Alt(a, b)
	}
	return rx.Cat(a, b)
}

// wrong are tokens whose steps are no expression.
func wrong() []api.Token {
	a := api.Rx{Kind: api.RxSet, Set: setOf("a")}
	return []api.Token{
		{Name: "nil"},
		{Name: "no steps", Rex: []api.Rx{}},
		{Name: "two parts", Rex: []api.Rx{a, a}},
		{Name: "an operand too few", Rex: []api.Rx{a, {Kind: api.RxCat}}},
		{Name: "a kind below all", Rex: []api.Rx{{Kind: 0, Set: setOf("a")}}},
		{Name: "a kind above all", Rex: []api.Rx{{Kind: 8, Set: setOf("a")}}},
		{Name: "a negative kind", Rex: []api.Rx{{Kind: math.MinInt, Set: setOf("a")}}},
		{Name: "a star with a Set", Rex: []api.Rx{a, {Kind: api.RxStar, Set: setOf("a")}}},
		{Name: "513 steps", Rex: rx.Text(strings.Repeat("a", 257))},
	}
}

// netOf is a net of its lists.
func netOf(sets []api.Set, of []int, last []bool, follow [][]int, first []int) api.Net {
	return api.Net{Sets: sets, Of: of, Last: last, Follow: follow, First: first}
}

// same reports whether two nets are equal.
func same(a, b api.Net) bool {
	return slices.Equal(a.Sets, b.Sets) && slices.Equal(a.Of, b.Of) && slices.Equal(a.Last, b.Last) &&
		slices.EqualFunc(a.Follow, b.Follow, slices.Equal) && slices.Equal(a.First, b.First)
}

// clone is a net that shares nothing with n.
func clone(n api.Net) api.Net {
	c := api.Net{Sets: slices.Clone(n.Sets), Of: slices.Clone(n.Of), Last: slices.Clone(n.Last), First: slices.Clone(n.First)}
	for _, l := range n.Follow {
		c.Follow = append(c.Follow, slices.Clone(l))
	}
	return c
}

// spotsIn reports whether each of l is one of count spots, and greater than those before it.
func spotsIn(l []int, count int) bool {
	for i, p := range l {
		for _, before := range l[:i] {
			if before >= p {
				return false
			}
		}
		if p < 0 || p >= count {
			return false
		}
	}
	return true
}

// isNet is what P1202 says of Right.
func isNet(n api.Net) bool {
	count := len(n.Sets)
	for _, l := range append([][]int{n.First}, n.Follow...) {
		if !spotsIn(l, count) {
			return false
		}
	}
	for _, of := range n.Of {
		if of < 0 {
			return false
		}
	}
	return len(n.Of) == count && len(n.Last) == count && len(n.Follow) == count
}

// chosen are the spots of n that keep chooses, from the least one on.
func chosen(n api.Net, keep func(p int) bool) []int {
	var l []int
	for p := range n.Sets {
		if keep(p) {
			l = append(l, p)
		}
	}
	return l
}

// startOf is what P1203 says of Start.
func startOf(n api.Net, b byte) []int {
	return chosen(n, func(p int) bool { return slices.Contains(n.First, p) && in(n.Sets[p], b) })
}

// stepOf is what P1203 says of Step.
func stepOf(n api.Net, at []int, b byte) []int {
	return chosen(n, func(q int) bool {
		follows := func(p int) bool { return p >= 0 && p < len(n.Follow) && slices.Contains(n.Follow[p], q) }
		return in(n.Sets[q], b) && slices.ContainsFunc(at, follows)
	})
}

// runOf is what P1203 says of Run.
func runOf(n api.Net, w string) []int {
	if w == "" {
		return nil
	}
	at := startOf(n, w[0])
	for i := 1; i < len(w); i++ {
		at = stepOf(n, at, w[i])
	}
	return at
}

// tokenOf is what P1203 says of Token.
func tokenOf(n api.Net, at []int) int {
	token := -1
	for _, p := range chosen(n, func(p int) bool { return n.Last[p] && slices.Contains(at, p) }) {
		if token == -1 || n.Of[p] < token {
			token = n.Of[p]
		}
	}
	return token
}

// someOf are about one in every so many of the spots, increasing.
func someOf(r *lcg, count, every int) []int {
	var l []int
	for p := range count {
		if r.below(every) == 0 {
			l = append(l, p)
		}
	}
	return l
}

// mixedNet is a net of count spots that no tokens need to have made, the same for the same numbers.
func mixedNet(r *lcg, count int) api.Net {
	sets := []api.Set{{}, setOf("a"), setOf("b"), setOf("ab"), setOf("\x00\x3f\x40\x7f\x80\xbf\xc0\xff"), setOf("ac\xff")}
	tokens := []int{0, 1, 2, 3, 64, 1 << 40, math.MaxInt}
	n := api.Net{First: someOf(r, count, 2)}
	for range count {
		n.Sets = append(n.Sets, sets[r.below(len(sets))])
		n.Of = append(n.Of, tokens[r.below(len(tokens))])
		n.Last = append(n.Last, r.below(2) == 0)
		n.Follow = append(n.Follow, someOf(r, count, 1+r.below(4)))
	}
	return n
}

// mixedSpots are numbers of which most are spots, neither in order nor each once.
func mixedSpots(r *lcg, count int) []int {
	others := []int{-1, -2, -64, count, count + 1, count + 1<<32, -count, math.MaxInt, math.MinInt}
	l := make([]int, r.below(8))
	for i := range l {
		if l[i] = others[r.below(len(others))]; count > 0 && r.below(3) > 0 {
			l[i] = r.below(count)
		}
	}
	return l
}

// eachText calls see with all texts of up to n of the signs.
func eachText(signs string, n int, see func(s string)) {
	l := []string{""}
	for from := 0; from < len(l); from++ {
		see(l[from])
		for i := range len(signs) {
			if len(l[from]) < n {
				l = append(l, l[from]+signs[i:i+1])
			}
		}
	}
}

// upTo are the numbers from lo to hi.
func upTo(lo, hi int) []int {
	var l []int
	for i := lo; i <= hi; i++ {
		l = append(l, i)
	}
	return l
}
