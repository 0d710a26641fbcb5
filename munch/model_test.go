package munch

import (
	"fmt"
	"math"
	"slices"
	"strconv"
	"strings"
	"testing"

	"facsimile/api"
	"facsimile/dfa"
	"facsimile/fuse"
	"facsimile/rx"
	"facsimile/rxtext"
)

// lcg is a row of numbers that look mixed, the same in each run.
type lcg uint64

func (r *lcg) below(n int) int {
	*r = *r*6364136223846793005 + 1442695040888963407
	return int(uint64(*r)>>33) % n
}

// text is a mixed text of n of the signs; the first of them is the one that it mostly has.
func (r *lcg) text(signs string, n, mostly int) string {
	l := make([]byte, n)
	for i := range l {
		l[i] = signs[0]
		if r.below(mostly) == 0 {
			l[i] = signs[r.below(len(signs))]
		}
	}
	return string(l)
}

// tokens are a token for each text of an expression.
func tokens(t *testing.T, texts ...string) []api.Token {
	t.Helper()
	var l []api.Token
	for _, s := range texts {
		rex, _, e := rxtext.Read(s)
		if e != api.OK {
			t.Fatalf("%q is not the text of an expression: %d", s, e)
		}
		l = append(l, api.Token{Rex: rex})
	}
	return l
}

// automaton is the automaton of the tokens.
func automaton(t *testing.T, l []api.Token) api.Dfa {
	t.Helper()
	d, _, e := dfa.Build(fuse.Fuse(l), api.MaxStates)
	if e != api.OK {
		t.Fatalf("%v cannot be built: %d", l, e)
	}
	return d
}

// built is the automaton of the tokens of the texts.
func built(t *testing.T, texts ...string) api.Dfa {
	t.Helper()
	return automaton(t, tokens(t, texts...))
}

// mixed is an expression of about so many sets or less, the same for the same numbers.
func mixed(r *lcg, sets int) []api.Rx {
	if sets < 2 {
		either := rx.Alt(rx.Text("a"), rx.Text("b"))
		leaves := [][]api.Rx{rx.Text("a"), rx.Text("b"), rx.Text("\xff"), rx.Text("aa"), either, rx.Set(api.Set{}), rx.Empty()}
		return leaves[r.below(len(leaves))]
	}
	left := 1 + r.below(sets-1)
	a, b := mixed(r, left), mixed(r, sets-left)
	switch r.below(8) {
	case 0:
		return rx.Star(rx.Cat(a, b))
	case 1:
		return rx.Plus(rx.Alt(a, b))
	case 2:
		return rx.Cat(rx.Opt(a), b)
	case 3, 4:
		return rx.Alt(a, b)
	}
	return rx.Cat(a, b)
}

// mixedTokens are one token or more, the same for the same numbers.
func mixedTokens(r *lcg) []api.Token {
	var l []api.Token
	for range 1 + r.below(4) {
		l = append(l, api.Token{Rex: mixed(r, 1+r.below(7))})
	}
	return l
}

// labels are labels of which most are of the usual kind.
var labels = []int{0, 1, 2, 3, 63, 64, 1 << 40, math.MaxInt - 1, math.MaxInt}

// mixedDfa is an automaton that no net needs to have made, the same for the same numbers: any state may have a label,
// state 0 as well, and most ways are between few states. The bytes a, b, 0 and 255 are of classes of their own, or not.
func mixedDfa(r *lcg) api.Dfa {
	d := api.Dfa{Width: 1}
	for b := 1; b < 256; b++ {
		d.Class[b] = uint8(r.below(d.Width))
		if (b == 'a' || b == 'b' || b == 255) && r.below(4) > 0 || r.below(50) == 0 {
			d.Class[b] = uint8(d.Width)
			d.Width++
		}
	}
	states, ways, read := 1+r.below(12), 1+r.below(10), 1+r.below(9)
	for range states {
		row, label := slices.Repeat([]int{-1}, d.Width), -1
		for class := range row {
			if r.below(10) < ways {
				row[class] = r.below(states)
			}
		}
		if r.below(12) < read {
			label = labels[r.below(len(labels))]
		}
		d.Next, d.Label = append(d.Next, row), append(d.Label, label)
	}
	return d
}

// farDfa is a mixed automaton in which ways are long and labels are rare: by a, states follow each other in circles.
func farDfa(r *lcg) api.Dfa {
	d := api.Dfa{Width: 4}
	d.Class['a'], d.Class['b'], d.Class['c'] = 1, 2, 3
	states := 2 + r.below(30)
	for range states {
		row, label := []int{-1, r.below(states), r.below(states), -1}, -1
		if r.below(4) == 0 {
			row[3] = r.below(states)
		}
		if r.below(12) == 0 {
			label = labels[r.below(len(labels))]
		}
		d.Next, d.Label = append(d.Next, row), append(d.Label, label)
	}
	return d
}

// dfas are automata of all kinds, so many of each.
func dfas(t *testing.T, r *lcg, count int) []api.Dfa {
	t.Helper()
	l := []api.Dfa{
		built(t), built(t, ""), built(t, "a"), built(t, "a", "a"), built(t, "a", `a[^\x00-\xff]`), built(t, `[^\x00-\xff]`),
		built(t, "a+", "ab"), built(t, "a", "a*b"), built(t, "(a|b)*abb"), built(t, "[a-z]+", "if", "[0-9]+", `[\x20\n]+`),
		built(t, ".", `\n`), built(t, "[^a]", "[^b]"), built(t, `\xff\x00`, `\x00\xff`), built(t, "ab", "abab", "a"), built(t, "a(ba)*", "b(aab)*"),
	}
	for range count {
		l = append(l, automaton(t, mixedTokens(r)), mixedDfa(r), farDfa(r))
	}
	return l
}

// modelNext is what P1602 says of Next, word by word from the longest one on.
func modelNext(d api.Dfa, s string, at int) (int, int) {
	if at < 0 || at >= len(s) {
		return -1, 0
	}
	for end := len(s); end > at; end-- {
		if label := dfa.Label(d, dfa.Run(d, s[at:end])); label != -1 {
			return label, end
		}
	}
	return -1, at + 1
}

// farNext is modelNext for long texts: it keeps no more of what it read than the longest word.
func farNext(d api.Dfa, s string, at int) (int, int) {
	token, end := -1, at+1
	state := 0
	for i := at; i < len(s) && state != -1; i++ {
		state = d.Next[state][d.Class[s[i]]]
		if state != -1 && d.Label[state] != -1 {
			token, end = d.Label[state], i+1
		}
	}
	return token, end
}

// modelCut is what P1603 says of Cut, by the words of next.
func modelCut(d api.Dfa, s string, next func(d api.Dfa, s string, at int) (int, int)) []api.Piece {
	var l []api.Piece
	for at := 0; at < len(s); {
		token, end := next(d, s, at)
		l = append(l, api.Piece{Tok: token, Text: s[at:end]})
		at = end
	}
	return l
}

// shownPieces is a text of pieces: of each its token and its text, quoted.
func shownPieces(l []api.Piece) string {
	var words []string
	for _, p := range l {
		words = append(words, strconv.Itoa(p.Tok)+strconv.Quote(p.Text))
	}
	return strings.Join(words, " ")
}

// shown is a text of d, short if d is great.
func shown(d api.Dfa) string {
	if len(d.Next)*d.Width > 200 {
		return fmt.Sprintf("an automaton of %d states and %d classes", len(d.Next), d.Width)
	}
	return fmt.Sprintf("the automaton of the rows %v, the labels %v and the classes %v", d.Next, d.Label, slices.Compact(slices.Clone(d.Class[:])))
}

// same reports whether two automata are equal.
func same(a, b api.Dfa) bool {
	return a.Class == b.Class && a.Width == b.Width && slices.EqualFunc(a.Next, b.Next, slices.Equal) && slices.Equal(a.Label, b.Label)
}

// clone is an automaton that shares nothing with d.
func clone(d api.Dfa) api.Dfa {
	c := api.Dfa{Class: d.Class, Width: d.Width, Label: slices.Clone(d.Label)}
	for _, row := range d.Next {
		c.Next = append(c.Next, slices.Clone(row))
	}
	return c
}

// with is d, a part of whose copy was changed.
func with(d api.Dfa, change func(d *api.Dfa)) api.Dfa {
	c := clone(d)
	change(&c)
	return c
}

// eachText calls see with all texts of up to n of the signs.
func eachText(signs string, n int, see func(s string)) {
	l := []string{""}
	for from := 0; from < len(l); from++ {
		see(l[from])
		for i := range len(signs) {
			if len(l[from]) < n {
				l = append(l, l[from]+signs[i:i+1])
			}
		}
	}
}
