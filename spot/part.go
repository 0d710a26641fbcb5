package spot

import (
	"facsimile/api"
	"facsimile/rx"
)

// spots are those with which the spellings of a part begin, and those with which they end.
type spots struct {
	first, last set
}

// beside returns the spots of the spellings of two parts.
func (s spots) beside(other spots) spots {
	return spots{first: s.first.with(other.first), last: s.last.with(other.last)}
}

// part is what is known of a part of an expression: its spots, and whether the empty sequence is a spelling.
type part struct {
	spots
	free bool
}

// single returns the part whose only spelling is the spot i.
func single(i int) part {
	return part{spots: spots{first: one(i), last: one(i)}}
}

// then returns the part whose spellings are those of a, with those of b behind them.
func (a part) then(b part) part {
	both := part{spots: spots{first: a.first, last: b.last}, free: a.free && b.free}
	if a.free {
		both.first = a.first.with(b.first)
	}
	if b.free {
		both.last = a.last.with(b.last)
	}
	return both
}

// or returns the part whose spellings are those of a and those of b.
func (a part) or(b part) part {
	return part{spots: a.beside(b.spots), free: a.free || b.free}
}

// orNone returns the part whose spellings are those of a and the empty one.
func (a part) orNone() part {
	a.free = true
	return a
}

// read returns what is known of the expression l as a whole; no spots and no spelling if l is none. It calls meet for
// all spellings that stand one behind the other: with the spots of those before, and of those behind.
func read(l []api.Rx, meet func(before, behind spots)) part {
	if rx.Check(l) != api.OK {
		return part{}
	}
	parts := make([]part, 0, rx.High(l))
	// unary and binary put what combine makes of the last parts in their place.
	unary := func(combine func(a part) part) {
		at := len(parts) - 1
		parts[at] = combine(parts[at])
	}
	binary := func(combine func(a, b part) part) {
		at := len(parts) - 2
		parts[at] = combine(parts[at], parts[at+1])
		parts = parts[:at+1]
	}
	chain := func(a, b part) part {
		meet(a.spots, b.spots)
		return a.then(b)
	}
	repeat := func(a part) part {
		meet(a.spots, a.spots)
		return a
	}
	count := 0
	for _, step := range l {
		switch step.Kind {
		case api.RxSet:
			parts = append(parts, single(count))
			count++
		case api.RxEmpty:
			parts = append(parts, part{free: true})
		case api.RxCat:
			binary(chain)
		case api.RxAlt:
			binary(part.or)
		case api.RxStar:
			unary(repeat)
			unary(part.orNone)
		case api.RxPlus:
			unary(repeat)
		case api.RxOpt:
			unary(part.orNone)
		}
	}
	return parts[0]
}
