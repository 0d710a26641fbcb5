package live

import (
	"fmt"
	"math"
	"slices"
	"strings"
	"testing"

	"facsimile/api"
	"facsimile/dfa"
	"facsimile/fuse"
	"facsimile/rx"
	"facsimile/rxtext"
)

// lcg is a row of numbers that look mixed, the same in each run.
type lcg uint64

func (r *lcg) below(n int) int {
	*r = *r*6364136223846793005 + 1442695040888963407
	return int(uint64(*r)>>33) % n
}

// setOf is the set of the bytes of s, by what package api says of sets.
func setOf(s string) api.Set {
	var set api.Set
	for _, b := range []byte(s) {
		set[b/64] |= 1 << (b % 64)
	}
	return set
}

// tokens are a token for each text of an expression.
func tokens(t *testing.T, texts ...string) []api.Token {
	t.Helper()
	var l []api.Token
	for _, s := range texts {
		rex, _, e := rxtext.Read(s)
		if e != api.OK {
			t.Fatalf("%q is not the text of an expression: %d", s, e)
		}
		l = append(l, api.Token{Rex: rex})
	}
	return l
}

// automaton is the automaton of the tokens.
func automaton(t *testing.T, l []api.Token) api.Dfa {
	t.Helper()
	d, _, e := dfa.Build(fuse.Fuse(l), api.MaxStates)
	if e != api.OK {
		t.Fatalf("%v cannot be built: %d", l, e)
	}
	return d
}

// built is the automaton of the tokens of the texts.
func built(t *testing.T, texts ...string) api.Dfa {
	t.Helper()
	return automaton(t, tokens(t, texts...))
}

// mixed is an expression of about so many sets or less, the same for the same numbers.
func mixed(r *lcg, sets int) []api.Rx {
	if sets < 2 {
		leaves := [][]api.Rx{rx.Text("a"), rx.Text("b"), rx.Text("\xff"), rx.Set(setOf("ab")), rx.Set(setOf("b\xff")), rx.Set(api.Set{}), rx.Empty()}
		return leaves[r.below(len(leaves))]
	}
	left := 1 + r.below(sets-1)
	a, b := mixed(r, left), mixed(r, sets-left)
	switch r.below(8) {
	case 0:
		return rx.Star(rx.Cat(a, b))
	case 1:
		return rx.Plus(rx.Alt(a, b))
	case 2:
		return rx.Cat(rx.Opt(a), b)
	case 3, 4:
		return rx.Alt(a, b)
	}
	return rx.Cat(a, b)
}

// mixedTokens are one token or more, the same for the same numbers.
func mixedTokens(r *lcg) []api.Token {
	var l []api.Token
	for range 1 + r.below(4) {
		l = append(l, api.Token{Rex: mixed(r, 1+r.below(7))})
	}
	return l
}

// labels are labels of which most are of the usual kind.
var labels = []int{0, 1, 2, 3, 63, 64, 1 << 40, math.MaxInt - 1, math.MaxInt}

// mixedClasses are classes that are numbered by their least bytes, and how many there are: of few bytes classes of
// their own, or of most.
func mixedClasses(r *lcg) ([256]uint8, int) {
	var of [256]uint8
	width, rare := 1, []int{2, 20, 100, 1000}[r.below(4)]
	for b := 1; b < 256; b++ {
		of[b] = uint8(r.below(width))
		if width < 256 && r.below(rare) == 0 {
			of[b] = uint8(width)
			width++
		}
	}
	return of, width
}

// mixedDfa is an automaton that no net needs to have made, the same for the same numbers: one of few ways has states
// that are not reached, one of few labels has states that are not alive.
func mixedDfa(r *lcg) api.Dfa {
	var d api.Dfa
	d.Class, d.Width = mixedClasses(r)
	states, ways, read := 1+r.below(12), 1+r.below(30), 1+r.below(9)
	for range states {
		row := slices.Repeat([]int{-1}, d.Width)
		for class := range row {
			if r.below(30) < ways {
				row[class] = r.below(states+1) - 1
			}
		}
		label := -1
		if r.below(9) < read {
			label = labels[r.below(len(labels))]
		}
		d.Next = append(d.Next, row)
		d.Label = append(d.Label, label)
	}
	return d
}

// thinDfa is a mixed automaton of few ways: most rows lead to one state or to none.
func thinDfa(r *lcg) api.Dfa {
	var d api.Dfa
	d.Class, d.Width = mixedClasses(r)
	states := 1 + r.below(20)
	for range states {
		row := slices.Repeat([]int{-1}, d.Width)
		for range r.below(3) {
			row[r.below(d.Width)] = r.below(states)
		}
		label := -1
		if r.below(4) == 0 {
			label = labels[r.below(len(labels))]
		}
		d.Next = append(d.Next, row)
		d.Label = append(d.Label, label)
	}
	return d
}

// longDfa is a mixed automaton of long ways: its states follow each other by some classes, in an order that their
// numbers do not tell, and by others there is a way back.
func longDfa(r *lcg) api.Dfa {
	var d api.Dfa
	d.Class, d.Width = mixedClasses(r)
	order := []int{0}
	for i := 1; i < 3+r.below(20); i++ {
		order = slices.Insert(order, 1+r.below(i), i)
	}
	d.Next, d.Label = make([][]int, len(order)), slices.Repeat([]int{-1}, len(order))
	for i, state := range order {
		row := slices.Repeat([]int{-1}, d.Width)
		for range 2 {
			row[r.below(d.Width)] = order[r.below(i+1)]
		}
		for range 1 + r.below(2) {
			row[r.below(d.Width)] = order[min(i+1, len(order)-1)]
		}
		d.Next[state] = row
		if r.below(8) == 0 {
			d.Label[state] = labels[r.below(len(labels))]
		}
	}
	return d
}

// dfas are automata of all kinds, so many of each.
func dfas(t *testing.T, r *lcg, count int) []api.Dfa {
	t.Helper()
	l := []api.Dfa{
		built(t), built(t, ""), built(t, "a"), built(t, "a", "a"), built(t, "a", `a[^\x00-\xff]`), built(t, "[b-d]+c"), built(t, `[^\x00-\xff]`),
		built(t, "a+", "ab"), built(t, "(a|b)*abb"), built(t, "[a-z]+", "if", "else", "[0-9]+", `[\x20\n]+`, `#[^\n]*\n`, "=", ";"),
		built(t, `a[^\x00-\xff]b`, "ab", "[ab]"), built(t, ".", `\n`), built(t, "[^a]", "[^b]"), built(t, `\xff\x00`, `\x00\xff`),
	}
	for range count {
		l = append(l, automaton(t, mixedTokens(r)), mixedDfa(r), thinDfa(r), longDfa(r))
	}
	return l
}

// follow is what P1403 says of dfa.Go, which looks at the whole automaton for each byte.
func follow(d api.Dfa, state, b int) int {
	return d.Next[state][d.Class[b]]
}

// leads are, for each state, the states that some byte leads to from it.
func leads(d api.Dfa) [][]bool {
	var to [][]bool
	for state := range d.Next {
		to = append(to, make([]bool, len(d.Next)))
		for b := range 256 {
			if next := follow(d, state, b); next >= 0 {
				to[state][next] = true
			}
		}
	}
	return to
}

// paths are, for each state, the states that some word leads to from it, the empty one as well.
func paths(d api.Dfa) [][]bool {
	to := leads(d)
	for state := range to {
		to[state][state] = true
	}
	for by := range to {
		for from := range to {
			for end := range to {
				if to[from][by] && to[by][end] {
					to[from][end] = true
				}
			}
		}
	}
	return to
}

// modelReached is what the definition says of the states that are reached.
func modelReached(d api.Dfa) []bool {
	return paths(d)[0]
}

// modelAlive is what the definition says of the states that are alive.
func modelAlive(d api.Dfa) []bool {
	var l []bool
	for _, ends := range paths(d) {
		is := false
		for end := range ends {
			is = is || ends[end] && d.Label[end] != -1
		}
		l = append(l, is)
	}
	return l
}

// modelTrim is what P1502 says of Trim.
func modelTrim(d api.Dfa) api.Dfa {
	reached, alive := modelReached(d), modelAlive(d)
	var kept []int
	for state := range d.Next {
		if state == 0 || reached[state] && alive[state] {
			kept = append(kept, state)
		}
	}
	c := api.Dfa{Class: d.Class, Width: d.Width}
	for _, state := range kept {
		var row []int
		for _, next := range d.Next[state] {
			row = append(row, slices.Index(kept, next))
		}
		c.Next, c.Label = append(c.Next, row), append(c.Label, d.Label[state])
	}
	return c
}

// modelTokens is what P1503 says of Tokens.
func modelTokens(d api.Dfa) []int {
	var l []int
	for state, is := range modelReached(d) {
		if is && d.Label[state] != -1 && !slices.Contains(l, d.Label[state]) {
			l = append(l, d.Label[state])
		}
	}
	slices.Sort(l)
	return l
}

// ends are, for each number of bytes up to as many as there are states, the states from which words of so many bytes
// lead to a state with the label t.
func ends(d api.Dfa, t int) [][]bool {
	to := leads(d)
	var l [][]bool
	for size := range len(d.Next) + 1 {
		row := make([]bool, len(d.Next))
		for state := range row {
			if size == 0 {
				row[state] = d.Label[state] == t
				continue
			}
			for next := range row {
				row[state] = row[state] || to[state][next] && l[size-1][next]
			}
		}
		l = append(l, row)
	}
	return l
}

// modelExample is what P1503 says of Example: of as few bytes as can be, at each place the least byte from which the
// rest can be had.
func modelExample(d api.Dfa, t int) (string, bool) {
	if t < 0 {
		return "", false
	}
	far := ends(d, t)
	size := slices.IndexFunc(far, func(row []bool) bool { return row[0] })
	if size < 0 {
		return "", false
	}
	var w []byte
	at := 0
	for rest := size - 1; rest >= 0; rest-- {
		b := 0
		for ; b < 256; b++ {
			if next := follow(d, at, b); next >= 0 && far[rest][next] {
				at = next
				break
			}
		}
		w = append(w, byte(b))
	}
	return string(w), true
}

// same reports whether two automata are equal.
func same(a, b api.Dfa) bool {
	return a.Class == b.Class && a.Width == b.Width && slices.EqualFunc(a.Next, b.Next, slices.Equal) && slices.Equal(a.Label, b.Label)
}

// shown is the beginning of a text of d.
func shown(d api.Dfa) string {
	if len(d.Next)*d.Width > 200 {
		return fmt.Sprintf("an automaton of %d states and %d classes", len(d.Next), d.Width)
	}
	return fmt.Sprintf("the automaton of the rows %v, the labels %v and the classes %v", d.Next, d.Label, slices.Compact(slices.Clone(d.Class[:])))
}

// isZero reports whether d has nothing at all.
func isZero(d api.Dfa) bool {
	return d.Class == [256]uint8{} && d.Width == 0 && len(d.Next) == 0 && len(d.Label) == 0
}

// clone is an automaton that shares nothing with d.
func clone(d api.Dfa) api.Dfa {
	c := api.Dfa{Class: d.Class, Width: d.Width, Label: slices.Clone(d.Label)}
	for _, row := range d.Next {
		c.Next = append(c.Next, slices.Clone(row))
	}
	return c
}

// with is d, a part of whose copy was changed.
func with(d api.Dfa, change func(d *api.Dfa)) api.Dfa {
	c := clone(d)
	change(&c)
	return c
}

// eachText calls see with all texts of up to n of the signs, by their lengths, and of one length in their order.
func eachText(signs string, n int, see func(s string)) {
	l := []string{""}
	for from := 0; from < len(l); from++ {
		see(l[from])
		for i := range len(signs) {
			if len(l[from]) < n {
				l = append(l, l[from]+signs[i:i+1])
			}
		}
	}
}

// chain is an automaton of so many states, each of which leads to the next one by each byte; the last one has the
// label 7. Numbered backwards, the states follow each other from the greatest number down, but state 0 is the first.
func chain(states int, backwards bool) api.Dfa {
	place := func(i int) int {
		if backwards && i > 0 {
			return states - i
		}
		return i
	}
	d := api.Dfa{Width: 1, Next: make([][]int, states), Label: slices.Repeat([]int{-1}, states)}
	for i := range states {
		d.Next[place(i)] = []int{-1}
		if i+1 < states {
			d.Next[place(i)] = []int{place(i + 1)}
		}
	}
	d.Label[place(states-1)] = 7
	return d
}

// zeros is a word of so many bytes 0.
func zeros(n int) string {
	return strings.Repeat("\x00", n)
}
