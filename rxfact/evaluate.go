package rxfact

import (
	"facsimile/api"
	"facsimile/rx"
)

// operations are what is done for a step of each kind, with what was found of its operands.
type operations[T any] struct {
	set             func(s api.Set) T
	empty           func() T
	cat, alt        func(a, b T) T
	star, plus, opt func(a T) T
}

// evaluate returns what the operations find of the expression l; false if l is none.
func evaluate[T any](l []api.Rx, do operations[T]) (T, bool) {
	if rx.Check(l) != api.OK {
		var nothing T
		return nothing, false
	}
	found := make([]T, 0, rx.High(l))
	take := func() T {
		last := found[len(found)-1]
		found = found[:len(found)-1]
		return last
	}
	for _, s := range l {
		// take changes found, and the language leaves open whether an operand is read before or behind a call beside it.
		made := apply(s, do, take)
		found = append(found, made)
	}
	return take(), true
}

// apply returns what the operation for the step s finds; take takes what was found last off what waits.
func apply[T any](s api.Rx, do operations[T], take func() T) T {
	switch s.Kind {
	case api.RxSet:
		return do.set(s.Set)
	case api.RxEmpty:
		return do.empty()
	case api.RxStar:
		return do.star(take())
	case api.RxPlus:
		return do.plus(take())
	case api.RxOpt:
		return do.opt(take())
	}
	// The second operand was found after the first one.
	b := take()
	a := take()
	if s.Kind == api.RxCat {
		return do.cat(a, b)
	}
	return do.alt(a, b)
}
