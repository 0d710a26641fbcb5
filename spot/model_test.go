package spot

import (
	"slices"
	"strings"

	"facsimile/api"
)

// lcg is a row of numbers that look mixed, the same in each run.
type lcg uint64

func (r *lcg) below(n int) int {
	*r = *r*6364136223846793005 + 1442695040888963407
	return int(uint64(*r)>>33) % n
}

// setOf is the set of the bytes of s, by what package api says of sets.
func setOf(s string) api.Set {
	var set api.Set
	for _, b := range []byte(s) {
		set[b/64] |= 1 << (b % 64)
	}
	return set
}

// in reports whether b is in s.
func in(s api.Set, b byte) bool {
	return s[b/64]>>(b%64)&1 == 1
}

// kinds are the signs of the steps other than RxSet: a dot is RxCat.
var kinds = map[byte]api.RxKind{'e': 2, '.': 3, '|': 4, '*': 5, '+': 6, '?': 7}

// needs is how many operands the steps of each kind have.
var needs = map[api.RxKind]int{1: 0, 2: 0, 3: 2, 4: 2, 5: 1, 6: 1, 7: 1}

// sets are the signs of RxSets of other than one byte.
var sets = map[byte]api.Set{'0': {}, 'x': setOf("ab"), 'y': setOf("bc"), '1': {^uint64(0), ^uint64(0), ^uint64(0), ^uint64(0)}}

// steps turns a text into steps by their signs; any other byte is the RxSet of itself.
func steps(s string) []api.Rx {
	var l []api.Rx
	for i := range len(s) {
		if kind, ok := kinds[s[i]]; ok {
			l = append(l, api.Rx{Kind: kind})
			continue
		}
		set, ok := sets[s[i]]
		if !ok {
			set = setOf(s[i : i+1])
		}
		l = append(l, api.Rx{Kind: api.RxSet, Set: set})
	}
	return l
}

// eachExpression calls see with all expressions of up to n of the signs.
func eachExpression(signs string, n int, see func(s string)) {
	var grow func(s string, parts int)
	grow = func(s string, parts int) {
		if parts == 1 {
			see(s)
		}
		if len(s) == n {
			return
		}
		for i := range len(signs) {
			need := needs[kinds[signs[i]]]
			if parts >= need && parts-need+1 <= n-len(s) {
				grow(s+signs[i:i+1], parts-need+1)
			}
		}
	}
	grow("", 0)
}

// mixed returns an expression of at least n steps, a few more at most, the same for the same numbers.
func mixed(r *lcg, signs string, n int) string {
	var s strings.Builder
	for parts := 0; s.Len() < n || parts > 1; {
		sign := signs[r.below(len(signs))]
		need := needs[kinds[sign]]
		if s.Len() >= n {
			sign, need = ".|"[r.below(2)], 2
		}
		if parts >= need && parts-need < 6 {
			s.WriteByte(sign)
			parts += 1 - need
		}
	}
	return s.String()
}

// operands splits an expression into its operands and its last step.
func operands(l []api.Rx) (a, b []api.Rx, last api.Rx) {
	before, last := l[:len(l)-1], l[len(l)-1]
	if needs[last.Kind] < 2 {
		return before, nil, last
	}
	missing, at := 1, len(before)
	for missing > 0 {
		at--
		missing += needs[before[at].Kind] - 1
	}
	return before[:at], before[at:], last
}

// count is how many spots l has.
func count(l []api.Rx) int {
	n := 0
	for _, s := range l {
		if s.Kind == api.RxSet {
			n++
		}
	}
	return n
}

// spelled are all spellings of l of up to n spots, as the chapter defines them: each is a text, whose bytes are its
// spots. The first spot of l is from.
func spelled(l []api.Rx, from, n int) map[string]bool {
	a, b, last := operands(l)
	switch last.Kind {
	case api.RxSet:
		if n == 0 {
			return nil
		}
		return map[string]bool{string([]byte{byte(from)}): true}
	case api.RxEmpty:
		return map[string]bool{"": true}
	case api.RxCat:
		return joined(spelled(a, from, n), spelled(b, from+count(a), n), n)
	}
	first := spelled(a, from, n)
	all := map[string]bool{}
	for w := range first {
		all[w] = true
	}
	switch last.Kind {
	case api.RxAlt:
		for w := range spelled(b, from+count(a), n) {
			all[w] = true
		}
		return all
	case api.RxStar, api.RxOpt:
		all[""] = true
	}
	if last.Kind != api.RxOpt {
		for before := -1; len(all) > before; {
			before = len(all)
			for w := range joined(all, first, n) {
				all[w] = true
			}
		}
	}
	return all
}

// joined are all texts of up to n bytes that are a text of a and a text of b.
func joined(a, b map[string]bool, n int) map[string]bool {
	all := map[string]bool{}
	for v := range a {
		for w := range b {
			if len(v)+len(w) <= n {
				all[v+w] = true
			}
		}
	}
	return all
}

// facts are what the calls answer of an expression.
type facts struct {
	sets        []api.Set
	first, last []int
	follow      [][]int
	free        bool
}

// same reports whether f and g are equal.
func (f facts) same(g facts) bool {
	return f.free == g.free && slices.Equal(f.sets, g.sets) && slices.Equal(f.first, g.first) &&
		slices.Equal(f.last, g.last) && slices.EqualFunc(f.follow, g.follow, slices.Equal)
}

// factsOf are what the calls answer of l.
func factsOf(l []api.Rx) facts {
	f := facts{Sets(l), First(l), Last(l), nil, Free(l)}
	for i := range f.sets {
		f.follow = append(f.follow, Follow(l, i))
	}
	return f
}

// setsOf are the Sets of the steps RxSet of l.
func setsOf(l []api.Rx) []api.Set {
	var all []api.Set
	for _, s := range l {
		if s.Kind == api.RxSet {
			all = append(all, s.Set)
		}
	}
	return all
}

// insert adds n to the increasing list l, unless it is there.
func insert(l []int, n int) []int {
	at, there := slices.BinarySearch(l, n)
	if there {
		return l
	}
	return slices.Insert(l, at, n)
}

// factsIn are the facts of l that all of its spellings of up to 2 * k spots show, where k is how many spots it has: a
// spelling that has two spots one behind the other need not have another spot twice before them, nor behind them.
func factsIn(l []api.Rx) facts {
	f := facts{sets: setsOf(l), follow: make([][]int, count(l))}
	for w := range spelled(l, 0, 2*count(l)) {
		if w == "" {
			f.free = true
			continue
		}
		f.first = insert(f.first, int(w[0]))
		f.last = insert(f.last, int(w[len(w)-1]))
		for i := range len(w) - 1 {
			f.follow[w[i]] = insert(f.follow[w[i]], int(w[i+1]))
		}
	}
	return f
}

// spells reports whether the spots of w are a spelling by f, as P1003 tells it.
func (f facts) spells(w string) bool {
	if w == "" {
		return f.free
	}
	for i := range len(w) - 1 {
		if !slices.Contains(f.follow[w[i]], int(w[i+1])) {
			return false
		}
	}
	return slices.Contains(f.first, int(w[0])) && slices.Contains(f.last, int(w[len(w)-1]))
}

// says reports whether there is a spelling, by f, whose Sets have the bytes of w, one by one.
func (f facts) says(w string) bool {
	if w == "" {
		return f.free
	}
	open := f.first
	for i := range len(w) {
		var after []int
		for _, p := range open {
			if !in(f.sets[p], w[i]) {
				continue
			}
			if i == len(w)-1 && slices.Contains(f.last, p) {
				return true
			}
			for _, q := range f.follow[p] {
				after = insert(after, q)
			}
		}
		open = after
	}
	return false
}

// path is a shortest way by f from a spot of from to the spot to, both included.
func (f facts) path(from []int, to int) string {
	ways := make(map[int]string)
	for _, p := range from {
		ways[p] = string([]byte{byte(p)})
	}
	for open := slices.Clone(from); len(open) > 0; open = open[1:] {
		p := open[0]
		if p == to {
			break
		}
		for _, q := range f.follow[p] {
			if _, seen := ways[q]; !seen {
				ways[q] = ways[p] + string([]byte{byte(q)})
				open = append(open, q)
			}
		}
	}
	return ways[to]
}

// spotted is l with the byte of its own number as the Set of each spot: the words of it are the spellings of l.
func spotted(l []api.Rx) []api.Rx {
	l = slices.Clone(l)
	n := 0
	for i := range l {
		if l[i].Kind == api.RxSet {
			l[i].Set = setOf(string([]byte{byte(n)}))
			n++
		}
	}
	return l
}

// wrong are lists of steps that are no expressions.
func wrong() map[string][]api.Rx {
	return map[string][]api.Rx{
		"nil":                     nil,
		"no steps":                {},
		"an operator alone":       steps("*"),
		"a RxCat of one":          steps("a."),
		"a RxAlt of none":         steps("|"),
		"two parts":               steps("ab"),
		"two parts, one empty":    steps("ea"),
		"an operator too early":   steps("a|b"),
		"a kind below all":        {{Kind: 0}},
		"a negative kind":         {{Kind: -1}},
		"a kind above all":        {{Kind: 8}},
		"a great kind":            {{Kind: 1 << 62, Set: setOf("a")}},
		"a wrong step, then more": slices.Concat(steps("a"), []api.Rx{{Kind: 9}}, steps("b.")),
		"a RxEmpty with a Set":    {{Kind: api.RxEmpty, Set: setOf("a")}},
		"a RxStar with a Set":     {steps("a")[0], {Kind: api.RxStar, Set: setOf("a")}},
		"513 steps":               steps("a" + strings.Repeat("*", 512)),
		"513 steps of 257 sets":   steps("a" + strings.Repeat("b.", 256)),
		"257 sets, then cats":     steps(strings.Repeat("a", 257) + strings.Repeat(".", 256)),
		"very many steps":         steps(strings.Repeat("a", 1<<17) + strings.Repeat("|", 1<<17-1)),
	}
}
