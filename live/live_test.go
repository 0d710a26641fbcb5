package live

import (
	"math"
	"slices"
	"strings"
	"testing"

	"facsimile/api"
	"facsimile/dfa"
	"facsimile/fuse"
	"facsimile/rx"
	"facsimile/rxfact"
)

// isTrue are the numbers of the elements that are true.
func isTrue(l []bool) []int {
	var at []int
	for i, is := range l {
		if is {
			at = append(at, i)
		}
	}
	return at
}

// holdStates holds what Reached and Alive answer to the states that they must tell.
func holdStates(t *testing.T, d api.Dfa, reached, alive []int) {
	t.Helper()
	if got := Reached(d); len(got) != len(d.Next) || !slices.Equal(isTrue(got), reached) {
		t.Errorf("reached are %v of %d, not %v, of %s", isTrue(got), len(got), reached, shown(d))
	}
	if got := Alive(d); len(got) != len(d.Next) || !slices.Equal(isTrue(got), alive) {
		t.Errorf("alive are %v of %d, not %v, of %s", isTrue(got), len(got), alive, shown(d))
	}
}

// holdTrim holds what Trim answers to the automaton that it must be.
func holdTrim(t *testing.T, d, want api.Dfa) {
	t.Helper()
	if got := Trim(d); !same(got, want) || !dfa.Right(got) {
		t.Errorf("Trim is %s, not %s, of %s", shown(got), shown(want), shown(d))
	}
}

// holdTokens holds what Tokens answers to the tokens that it must tell.
func holdTokens(t *testing.T, d api.Dfa, want ...int) {
	t.Helper()
	if got := Tokens(d); !slices.Equal(got, want) {
		t.Errorf("Tokens are %v, not %v, of %s", got, want, shown(d))
	}
}

// holdExample holds what Example answers to the word that it must be.
func holdExample(t *testing.T, d api.Dfa, token int, word string, found bool) {
	t.Helper()
	if got, is := Example(d, token); got != word || is != found {
		t.Errorf("the Example of %d is %.60q, %v, not %.60q, %v, of %s", token, got, is, word, found, shown(d))
	}
}

// notTokens are numbers that are no labels of d, those of no token before all.
func notTokens(d api.Dfa) []int {
	var l []int
	for _, t := range []int{math.MinInt, math.MinInt + 1, -1 << 32, -2, -1, 0, 1, 2, 5, 63, 64, 65, 1 << 32, 1 << 40, math.MaxInt - 1, math.MaxInt} {
		if t < 0 || !slices.Contains(d.Label, t) {
			l = append(l, t)
		}
	}
	return l
}

func TestP1502Examples(t *testing.T) {
	d := built(t, "a", `a[^\x00-\xff]`)
	holdStates(t, d, []int{0, 1}, []int{0, 1})
	holdTrim(t, d, d)
	if got := Trim(d); len(got.Next) != 2 {
		t.Error("states:", len(got.Next))
	}
	holdTokens(t, d, 0)
	holdExample(t, d, 0, "a", true)
	holdExample(t, d, 1, "", false)
	holdExample(t, built(t, "[b-d]+c"), 0, "bc", true)
}

// abc are the classes of a, of b, of c, and of all other bytes, which is class 0.
func abc() (of [256]uint8) {
	of['a'], of['b'], of['c'] = 1, 2, 3
	return of
}

// States of each kind: reached or not, alive or not.
func TestP1502Kinds(t *testing.T) {
	d := api.Dfa{Class: abc(), Width: 4, Next: [][]int{
		{-1, 3, 2, -1}, // 0: leads to 3 and 2
		{3, 5, -1, 1},  // 1: alive, not reached
		{-1, 2, 2, -1}, // 2: reached, not alive
		{5, -1, 2, 3},  // 3: both
		{4, 2, -1, -1}, // 4: neither
		{-1, 0, -1, 6}, // 5: both, read as 9, and leads back to 0
		{2, 2, 2, 2},   // 6: both, read as 4, and leads to 2 alone
	}, Label: []int{-1, -1, -1, -1, -1, 9, 4}}
	holdStates(t, d, []int{0, 2, 3, 5, 6}, []int{0, 1, 3, 5, 6})
	holdTrim(t, d, api.Dfa{Class: abc(), Width: 4, Next: [][]int{
		{-1, 1, -1, -1}, {2, -1, -1, 1}, {-1, 0, -1, 3}, {-1, -1, -1, -1},
	}, Label: []int{-1, -1, 9, 4}})
	holdTokens(t, d, 4, 9)
	holdExample(t, d, 9, "a\x00", true)
	holdExample(t, d, 4, "a\x00c", true)
	for _, token := range notTokens(d) {
		holdExample(t, d, token, "", false)
	}
}

// A label is read at a state that is not reached: it is no token, and such states are omitted.
func TestP1502Unreached(t *testing.T) {
	d := api.Dfa{Class: abc(), Width: 4, Next: [][]int{
		{-1, 2, -1, -1}, {0, 1, 2, -1}, {-1, -1, -1, -1},
	}, Label: []int{-1, 5, 6}}
	holdStates(t, d, []int{0, 2}, []int{0, 1, 2})
	holdTrim(t, d, api.Dfa{Class: abc(), Width: 4, Next: [][]int{{-1, 1, -1, -1}, {-1, -1, -1, -1}}, Label: []int{-1, 6}})
	holdTokens(t, d, 6)
	holdExample(t, d, 5, "", false)
	holdExample(t, d, 6, "a", true)
}

// State 0 stays though nothing is alive, and so does what leads from it to itself.
func TestP1502Nothing(t *testing.T) {
	for _, texts := range [][]string{nil, {""}, {"", "()*"}, {`[^\x00-\xff]`}, {`[^\x00-\xff]`, `[^\x00-\xff]a`}} {
		d := built(t, texts...)
		holdStates(t, d, []int{0}, nil)
		holdTrim(t, d, d)
		holdTokens(t, d)
		for _, token := range notTokens(d) {
			holdExample(t, d, token, "", false)
		}
	}
	d := built(t, `ab[^\x00-\xff]`)
	holdStates(t, d, []int{0, 1, 2}, nil)
	holdTrim(t, d, api.Dfa{Class: d.Class, Width: d.Width, Next: [][]int{slices.Repeat([]int{-1}, d.Width)}, Label: []int{-1}})
	holdTokens(t, d)
	d = api.Dfa{Class: abc(), Width: 4, Next: [][]int{{0, 1, 0, -1}, {0, 1, 1, -1}}, Label: []int{-1, -1}}
	holdStates(t, d, []int{0, 1}, nil)
	holdTrim(t, d, api.Dfa{Class: abc(), Width: 4, Next: [][]int{{0, -1, 0, -1}}, Label: []int{-1}})
	d = api.Dfa{Width: 1, Next: [][]int{{0}}, Label: []int{-1}}
	holdStates(t, d, []int{0}, nil)
	holdTrim(t, d, d)
}

// A token may be read at state 0, to which the empty word leads.
func TestP1503Empty(t *testing.T) {
	d := api.Dfa{Class: abc(), Width: 4, Next: [][]int{{1, -1, -1, -1}, {0, -1, -1, -1}}, Label: []int{3, 3}}
	holdStates(t, d, []int{0, 1}, []int{0, 1})
	holdTrim(t, d, d)
	holdTokens(t, d, 3)
	holdExample(t, d, 3, "", true)
	holdExample(t, d, 0, "", false)
	d = api.Dfa{Width: 1, Next: [][]int{{-1}}, Label: []int{0}}
	holdStates(t, d, []int{0}, []int{0})
	holdTrim(t, d, d)
	holdTokens(t, d, 0)
	holdExample(t, d, 0, "", true)
	holdExample(t, d, -1, "", false)
}

// Tokens are told from the least one on, whatever order the states have; the greatest ones as well.
func TestP1503Tokens(t *testing.T) {
	d := api.Dfa{Class: abc(), Width: 4, Next: [][]int{
		{4, 1, 2, 3}, {5, 6, -1, -1}, {-1, -1, -1, -1}, {-1, -1, -1, -1}, {-1, -1, -1, -1}, {-1, -1, -1, -1}, {-1, -1, -1, -1}, {-1, -1, -1, -1},
	}, Label: []int{-1, math.MaxInt, 7, 7, 0, math.MaxInt, 2, 1}}
	holdTokens(t, d, 0, 2, 7, math.MaxInt)
	holdExample(t, d, math.MaxInt, "a", true)
	holdExample(t, d, 7, "b", true)
	holdExample(t, d, 0, "\x00", true)
	holdExample(t, d, 2, "aa", true)
	holdExample(t, d, 1, "", false)
	holdTokens(t, built(t, "if", "[a-z]+", `\x20`, "a"), 0, 1, 2)
	var l []api.Token
	for b := range api.MaxTokens {
		l = append(l, api.Token{Rex: rx.Text(string([]byte{byte(255 - b)}))})
	}
	all := automaton(t, l)
	var want []int
	for b := range api.MaxTokens {
		want = append(want, b)
		holdExample(t, all, b, string([]byte{byte(255 - b)}), true)
	}
	holdTokens(t, all, want...)
}

// Of the shortest words the smallest one: by its first byte, then by the next one, as bytes and not as states.
func TestP1503Smallest(t *testing.T) {
	for _, x := range []struct{ text, word string }{
		{"[b-d]+c", "bc"}, {"ba|ab", "ab"}, {"b|a|ab|aa", "a"}, {"aaa|bb|c", "c"}, {"aab|ab|b", "b"}, {"ba|ac|ab", "ab"},
		{"[a-z]+", "a"}, {"[^a]", "\x00"}, {`[\x00-\x02]b|\x03a`, "\x00b"}, {`\xffa|\x80b|\x7fc`, "\x7fc"}, {"(a|b)*ba", "ba"},
		{"(b|aa)(c|d)", "bc"}, {"(cb|bc)(a|bb)", "bca"}, {"[x-z]d|[w-y]c", "wc"}, {`[\x80-\xff]`, "\x80"}, {`[\xfe\xff][\xff]`, "\xfe\xff"},
		{`[^\x00-\xff]|zz`, "zz"}, {"a*b", "b"}, {"a+b", "ab"}, {`[^\x00]`, "\x01"}, {`[\x00-\xff][\x00-\xff]`, "\x00\x00"},
	} {
		holdExample(t, built(t, x.text), 0, x.word, true)
	}
	// A state to which two words lead, and a word that is smaller though its state is greater.
	d := api.Dfa{Class: abc(), Width: 4, Next: [][]int{
		{-1, 3, 2, 1}, {-1, 4, -1, -1}, {-1, 4, -1, -1}, {-1, -1, -1, 4}, {-1, -1, -1, -1},
	}, Label: []int{-1, 8, 8, 8, 9}}
	holdExample(t, d, 8, "a", true)
	holdExample(t, d, 9, "ac", true)
	// The word of a token that is taken from it by an earlier one is no Example.
	holdExample(t, built(t, "a", "[ab]"), 1, "b", true)
	holdExample(t, built(t, "[ab]", "[ab]+"), 1, "aa", true)
	holdExample(t, built(t, "[ab]", "a", "b"), 1, "", false)
}

// Classes that have other bytes than neighbours, each with a state of its own.
func TestP1503Bytes(t *testing.T) {
	d := api.Dfa{Width: 256, Next: [][]int{nil}, Label: []int{-1}}
	for b := range 256 {
		d.Class[b] = uint8(b)
		d.Next[0] = append(d.Next[0], 256-b)
		d.Next = append(d.Next, slices.Repeat([]int{-1}, 256))
		d.Label = append(d.Label, b)
	}
	for b := range 256 {
		holdExample(t, d, b, string([]byte{byte(255 - b)}), true)
	}
	two := api.Dfa{Width: 2, Next: [][]int{{2, 1}, {-1, -1}, {-1, -1}}, Label: []int{-1, 0, 1}}
	for b := range 256 {
		two.Class[b] = uint8(b % 2)
	}
	holdExample(t, two, 0, "\x01", true)
	holdExample(t, two, 1, "\x00", true)
	for b := 1; b < 256; b++ {
		last := api.Dfa{Width: 2, Next: [][]int{{-1, 1}, {1, -1}}, Label: []int{-1, 0}}
		last.Class[b] = 1
		holdExample(t, last, 0, string([]byte{byte(b)}), true)
	}
}

// Automata of all kinds, against what the chapter says of each state.
func TestP1502Model(t *testing.T) {
	var r lcg
	var some [2][2]int
	for _, d := range dfas(t, &r, 700) {
		reached, alive := modelReached(d), modelAlive(d)
		holdStates(t, d, isTrue(reached), isTrue(alive))
		holdTrim(t, d, modelTrim(d))
		for state := range d.Next {
			some[isOne(reached[state])][isOne(alive[state])]++
		}
	}
	for i, l := range some {
		for j, n := range l {
			if n < 500 {
				t.Errorf("states of which %d says that they are reached and %d that they are alive: %d", i, j, n)
			}
		}
	}
}

// isOne is 1 for true.
func isOne(is bool) int {
	if is {
		return 1
	}
	return 0
}

func TestP1503Model(t *testing.T) {
	var r lcg
	found, missed, long := 0, 0, 0
	for _, d := range dfas(t, &r, 500) {
		holdTokens(t, d, modelTokens(d)...)
		for _, token := range append(slices.Clone(labels), 4, 65) {
			word, is := modelExample(d, token)
			holdExample(t, d, token, word, is)
			if is != slices.Contains(Tokens(d), token) {
				t.Errorf("the Example of %d and the Tokens %v", token, Tokens(d))
			}
			found, missed = found+isOne(is), missed+1-isOne(is)
			if len(word) > 2 {
				long++
			}
		}
		for _, token := range notTokens(d) {
			holdExample(t, d, token, "", false)
		}
	}
	if found < 1000 || missed < 1000 || long < 300 {
		t.Error(found, missed, long)
	}
}

// Example is the first of all words, by their lengths and then by their bytes, that leads to the label.
func TestP1503Words(t *testing.T) {
	var r lcg
	for range 250 {
		// No byte but these leads anywhere: the words of these are all that there are.
		d := automaton(t, mixedTokens(&r))
		first := map[int]string{}
		eachText("ab\xff", 6, func(w string) {
			label := dfa.Label(d, dfa.Run(d, w))
			if _, known := first[label]; label != -1 && !known {
				first[label] = w
			}
		})
		for token := range 5 {
			got, is := Example(d, token)
			word, known := first[token]
			if is && !known && len(got) > 6 {
				continue
			}
			if got != word || is != known {
				t.Errorf("the Example of %d is %q, %v, not %q, %v", token, got, is, word, known)
			}
		}
	}
}

// P1504: the label that a word leads to stays, whatever word.
func TestP1504(t *testing.T) {
	var r lcg
	read := 0
	for _, d := range dfas(t, &r, 60) {
		trimmed := Trim(d)
		eachText("ab\x00\xff", 5, func(w string) {
			want := dfa.Label(d, dfa.Run(d, w))
			if got := dfa.Label(trimmed, dfa.Run(trimmed, w)); got != want {
				t.Fatalf("%q leads to %d, not to %d, of %s", w, got, want, shown(d))
			}
			read += isOne(want != -1)
		})
		for b := range 256 {
			w := string([]byte{byte(b)})
			if got, want := dfa.Label(trimmed, dfa.Run(trimmed, w)), dfa.Label(d, dfa.Run(d, w)); got != want {
				t.Fatalf("%q leads to %d, not to %d, of %s", w, got, want, shown(d))
			}
		}
		for _, token := range labels {
			word, is := Example(d, token)
			holdExample(t, trimmed, token, word, is)
		}
		holdTokens(t, trimmed, Tokens(d)...)
	}
	if read < 5000 {
		t.Error("words that lead to a label:", read)
	}
}

// The labels of words stay those of the first token whose expression matches them.
func TestP1504Tokens(t *testing.T) {
	var r lcg
	for range 120 {
		l := mixedTokens(&r)
		d := Trim(automaton(t, l))
		eachText("ab\xff", 4, func(w string) {
			want := slices.IndexFunc(l, func(token api.Token) bool { return rxfact.Says(token.Rex, w) })
			if w == "" {
				want = -1
			}
			if got := dfa.Label(d, dfa.Run(d, w)); got != want {
				t.Fatalf("%q is read as %d, not as %d, of %v", w, got, want, l)
			}
		})
	}
}

// P1505: each state but state 0 is reached and alive, and there is nothing more to be trimmed.
func TestP1505(t *testing.T) {
	var r lcg
	less := 0
	for _, d := range dfas(t, &r, 600) {
		trimmed := Trim(d)
		if !dfa.Right(trimmed) {
			t.Fatalf("Trim is not Right, of %s", shown(d))
		}
		reached, alive := modelReached(trimmed), modelAlive(trimmed)
		for state := 1; state < len(trimmed.Next); state++ {
			if !reached[state] || !alive[state] || !Reached(trimmed)[state] || !Alive(trimmed)[state] {
				t.Fatalf("the state %d is of no use, of %s", state, shown(trimmed))
			}
		}
		holdTrim(t, trimmed, trimmed)
		less += len(d.Next) - len(trimmed.Next)
	}
	if less < 1000 {
		t.Error("states that were omitted:", less)
	}
}

// P1506: an Example leads to its label, and no word before it does.
func TestP1506(t *testing.T) {
	var r lcg
	for _, d := range dfas(t, &r, 300) {
		for _, token := range Tokens(d) {
			w, is := Example(d, token)
			if !is || dfa.Label(d, dfa.Run(d, w)) != token {
				t.Fatalf("the Example of %d is %q, %v, of %s", token, w, is, shown(d))
			}
			far := ends(d, token)
			for size := range len(w) {
				if far[size][0] {
					t.Fatalf("the Example of %d is %q, but there is one of %d bytes, of %s", token, w, size, shown(d))
				}
			}
		}
	}
}

// A long row of states, whatever their numbers.
func TestP1506Long(t *testing.T) {
	for _, states := range []int{1, 2, 31, 32, 33, 34, 63, 64, 65, 66, 97, 98, 1000, api.MaxStates, 1 << 20} {
		for _, backwards := range []bool{false, true} {
			d := chain(states, backwards)
			if w, is := Example(d, 7); !is || w != zeros(states-1) {
				t.Errorf("the Example of %d states has %d bytes, %v", states, len(w), is)
			}
			if slices.Contains(Reached(d), false) || slices.Contains(Alive(d), false) || len(Alive(d)) != states {
				t.Errorf("of %d states not all are reached and alive", states)
			}
			if got := Trim(d); !same(got, d) {
				t.Errorf("%d states are trimmed to %d", states, len(got.Next))
			}
			holdTokens(t, d, 7)
			d.Label[slices.Index(d.Label, 7)] = -1
			if slices.Contains(Alive(d), true) || len(Trim(d).Next) != 1 {
				t.Errorf("of %d states some are alive", states)
			}
		}
	}
}

// Long words that part at each place.
func TestP1506Parting(t *testing.T) {
	for _, text := range []string{"a" + strings.Repeat("bc", 50), strings.Repeat("abcde", 14)} {
		for i := range len(text) {
			one := text[:i] + "\x00" + text[i+1:]
			other := text[:i] + "\xff" + text[i+1:]
			d := automaton(t, []api.Token{{Rex: rx.Text(text)}, {Rex: rx.Text(one)}, {Rex: rx.Text(other)}, {Rex: rx.Alt(rx.Text(other+"y"), rx.Text(one+"z"))}})
			holdExample(t, d, 0, text, true)
			holdExample(t, d, 1, one, true)
			holdExample(t, d, 2, other, true)
			holdExample(t, d, 3, one+"z", true)
		}
	}
}

// As many states as there may be, each of which leads to many others by 256 classes.
func TestP1502Dense(t *testing.T) {
	var r lcg
	d := api.Dfa{Width: 256, Label: slices.Repeat([]int{-1}, api.MaxStates)}
	for b := range 256 {
		d.Class[b] = uint8(b)
	}
	for range api.MaxStates {
		row := make([]int, 256)
		for class := range row {
			row[class] = r.below(api.MaxStates)
		}
		d.Next = append(d.Next, row)
	}
	if slices.Contains(Alive(d), true) || slices.Contains(Reached(d), false) || len(Trim(d).Next) != 1 {
		t.Error("states are alive, or are not reached")
	}
	d.Label[api.MaxStates-1] = 1
	if slices.Contains(Alive(d), false) || !same(Trim(d), d) {
		t.Error("states are not alive")
	}
	w, is := Example(d, 1)
	if !is || len(w) == 0 || len(w) > 3 || dfa.Run(d, w) != api.MaxStates-1 {
		t.Errorf("%q, %v", w, is)
	}
}

// The automaton of many words, as a grammar has it.
func TestP1502Tokens(t *testing.T) {
	var l []api.Token
	for first := range 15 {
		w := string([]byte{byte(first)}) + strings.Repeat("z", 255)
		l = append(l, api.Token{Rex: rx.Text(w)}, api.Token{Rex: rx.Cat(rx.Text(w[:100]), rx.Set(api.Set{}))})
	}
	d, states, e := dfa.Build(fuse.Fuse(l), api.MaxStates)
	if e != api.OK || states != 1+15*256 {
		t.Fatal(e, states)
	}
	holdTrim(t, d, d)
	holdTokens(t, d, 0, 2, 4, 6, 8, 10, 12, 14, 16, 18, 20, 22, 24, 26, 28)
	for first := range 15 {
		holdExample(t, d, 2*first, string([]byte{byte(first)})+strings.Repeat("z", 255), true)
		holdExample(t, d, 2*first+1, "", false)
	}
}
