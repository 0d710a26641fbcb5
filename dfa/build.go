package dfa

import (
	"slices"

	"facsimile/api"
	"facsimile/fuse"
	"facsimile/kind"
	"facsimile/many"
)

// Build returns the automaton of n, whose states are the lists of spots that words lead to, and how many states it has, of which there may be most.
func Build(n api.Net, most int) (api.Dfa, int, api.Errno) {
	if !fuse.Right(n) {
		return api.Dfa{}, 0, api.ErrForm
	}
	if most < 1 || most > api.MaxStates {
		return api.Dfa{}, 0, api.ErrRange
	}
	d, built := build(n, most)
	if !built {
		return api.Dfa{}, 0, api.ErrStates
	}
	return d, len(d.Next), api.OK
}

// build does what Build does, for a net that is Right; it reports false if there are more than most states.
func build(n api.Net, most int) (api.Dfa, bool) {
	var d api.Dfa
	d.Class, d.Width = kind.Of(n.Sets)
	// State 0 has a place among the lists, but no list leads back to it.
	found := [][]int{nil}
	numbers := map[string]int{}
	number := func(spots []int) int {
		if len(spots) == 0 {
			return none
		}
		key := many.Key(spots)
		state, known := numbers[key]
		if !known {
			state = len(found)
			numbers[key] = state
			found = append(found, spots)
		}
		return state
	}
	p := pathsOf(n, d.Class, d.Width)
rows:
	for state := 0; state < len(found); state++ {
		var row []int
		for _, spots := range p.from(state, found[state]) {
			row = append(row, number(spots))
			if len(found) > most {
				break rows
			}
		}
		d.Next = append(d.Next, row)
		d.Label = append(d.Label, fuse.Token(p.bare, found[state]))
	}
	return d, len(found) <= most
}

// paths is a net made ready for being followed from many lists of spots.
type paths struct {
	net     api.Net
	bare    api.Net
	classes [][]uint8 // of each spot, the classes of the bytes that its Set contains
	width   int
	seen    []int // of each spot, the state that it was last seen to follow
}

// pathsOf makes n ready, for bytes of those classes.
func pathsOf(n api.Net, of [256]uint8, width int) *paths {
	p := &paths{net: n, bare: bareOf(n), classes: make([][]uint8, len(n.Sets)), width: width, seen: make([]int, len(n.Sets))}
	for c := range width {
		// All bytes of a class are in the same Sets: one of them speaks for all.
		for _, spot := range fuse.Start(p.bare, kind.Bytes(of, c)[0]) {
			p.classes[spot] = append(p.classes[spot], uint8(c))
		}
	}
	return p
}

// bareOf returns the spots of n as a net in which all of them are first, and nothing follows.
func bareOf(n api.Net) api.Net {
	// fuse looks at the whole net on each call: without what follows that is quick, however densely the spots of n follow each other.
	bare := api.Net{Sets: n.Sets, Of: n.Of, Last: n.Last, Follow: make([][]int, len(n.Sets))}
	for spot := range len(n.Sets) {
		bare.First = append(bare.First, spot)
	}
	return bare
}

// from returns for each class the spots that its bytes lead to from the spots of a state, increasing.
func (p *paths) from(state int, spots []int) [][]int {
	next := p.net.First
	if state > 0 {
		next = p.after(state, spots)
	}
	lists := make([][]int, p.width)
	for _, spot := range next {
		for _, c := range p.classes[spot] {
			lists[c] = append(lists[c], spot)
		}
	}
	return lists
}

// after returns the spots that follow those of a state, which is not state 0, increasing.
func (p *paths) after(state int, spots []int) []int {
	var l []int
	for _, spot := range spots {
		for _, next := range p.net.Follow[spot] {
			if p.seen[next] != state {
				p.seen[next] = state
				l = append(l, next)
			}
		}
	}
	slices.Sort(l)
	return l
}
