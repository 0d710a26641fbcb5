package rxfact

import (
	"facsimile/api"
	"facsimile/bset"
)

// positions is a set of numbers of RxSet steps. It is kept as a set of bytes: two of MaxRx steps are needed for each
// but the first of them, so that there are at most 256.
type positions = api.Set

// reach is where the words of a part may begin and end, and whether one of them is empty.
type reach struct {
	null        bool
	first, last positions
}

// net is the positions of an expression: the bytes of each of them, and the positions that may follow it. Words are
// read by going from position to position, so that stars in stars take no more time than one star.
type net struct {
	sets []api.Set
	next []positions
}

// newNet returns the net of the expression l and the reach of its words; false if l is none.
func newNet(l []api.Rx) (*net, reach, bool) {
	n := &net{}
	whole, ok := evaluate(l, operations[reach]{
		set:   n.set,
		empty: func() reach { return reach{null: true} },
		cat:   n.cat,
		alt:   reach.or,
		star:  func(a reach) reach { return n.plus(a).orEmpty() },
		plus:  n.plus,
		opt:   reach.orEmpty,
	})
	return n, whole, ok
}

// set adds a position with the bytes of s.
func (n *net) set(s api.Set) reach {
	at := bset.One(byte(len(n.sets)))
	n.sets = append(n.sets, s)
	n.next = append(n.next, positions{})
	return reach{first: at, last: at}
}

// link lets the positions of to follow those of from.
func (n *net) link(from, to positions) {
	for _, p := range bset.Bytes(from) {
		n.next[p] = bset.All(n.next[p], to)
	}
}

// cat lets words of b follow words of a.
func (n *net) cat(a, b reach) reach {
	n.link(a.last, b.first)
	both := reach{null: a.null && b.null, first: a.first, last: b.last}
	if a.null {
		both.first = bset.All(a.first, b.first)
	}
	if b.null {
		both.last = bset.All(a.last, b.last)
	}
	return both
}

// plus lets words of a follow each other.
func (n *net) plus(a reach) reach {
	n.link(a.last, a.first)
	return a
}

// or returns the reach of the words of a and of b.
func (a reach) or(b reach) reach {
	return reach{
		null:  a.null || b.null,
		first: bset.All(a.first, b.first),
		last:  bset.All(a.last, b.last),
	}
}

// orEmpty returns the reach of the words of a and of the empty word.
func (a reach) orEmpty() reach {
	a.null = true
	return a
}

// read returns the positions that may come after the byte b, if those of open may come with it; and whether a word may
// end with it, if it may end at those of last.
func (n *net) read(open, last positions, b byte) (positions, bool) {
	var after positions
	ended := false
	for _, p := range bset.Bytes(open) {
		if bset.Has(n.sets[p], b) {
			after = bset.All(after, n.next[p])
			ended = ended || bset.Has(last, p)
		}
	}
	return after, ended
}

// eachEnd calls see with each index of w at which a word of l that begins at at may end, from the least one on.
func eachEnd(l []api.Rx, w string, at int, see func(end int)) {
	n, whole, ok := newNet(l)
	if !ok {
		return
	}
	if whole.null {
		see(at)
	}
	open, ended := whole.first, false
	for i := at; i < len(w) && open != (positions{}); i++ {
		open, ended = n.read(open, whole.last, w[i])
		if ended {
			see(i + 1)
		}
	}
}
