package live

import (
	"slices"

	"facsimile/api"
)

// chunk is how many bytes of a word are copied at most when it grows.
const chunk = 32

// word is a word that leads to a state: the bytes of another one, and its own behind them.
type word struct {
	// Long words share their beginnings: a row of states that is as long as it likes takes no more than its length.
	before *word
	own    []byte
}

// waiting is a state whose row is still to be processed, and the word that leads to it.
type waiting struct {
	state int
	word  word
}

// each calls see with each reached state, and with the smallest of the shortest words that lead to it, in the order of these words, until see returns false.
func each(d api.Dfa, see func(state int, w word) bool) {
	least := leastBytes(d.Class)
	found := make([]bool, len(d.Next))
	var list []waiting
	wait := func(state int, w word) bool {
		found[state] = true
		list = append(list, waiting{state: state, word: w})
		return see(state, w)
	}
	if !wait(0, word{}) {
		return
	}
rows:
	for len(list) > 0 {
		at := list[0]
		list = list[1:]
		// Classes are numbered by their least bytes: by classes, the words of a row are found from the smallest one on.
		for class, next := range d.Next[at.state] {
			if next == none || found[next] {
				continue
			}
			if !wait(next, at.word.with(least[class])) {
				break rows
			}
		}
	}
}

// leastBytes returns the least byte of each class.
func leastBytes(of [256]uint8) [256]byte {
	var least [256]byte
	for b := len(of) - 1; b >= 0; b-- {
		least[of[b]] = byte(b)
	}
	return least
}

// with returns the word that has b behind the bytes of w.
func (w word) with(b byte) word {
	if len(w.own) == chunk {
		full := w
		return word{before: &full, own: []byte{b}}
	}
	// Other words grow from w as well: each has a copy of its own.
	own := make([]byte, len(w.own)+1)
	copy(own, w.own)
	own[len(w.own)] = b
	return word{before: w.before, own: own}
}

// text returns the bytes of w.
func (w word) text() string {
	parts := [][]byte{w.own}
	for before := w.before; before != nil; before = before.before {
		parts = append(parts, before.own)
	}
	slices.Reverse(parts)
	return string(slices.Concat(parts...))
}
