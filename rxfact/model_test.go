package rxfact

import (
	"slices"
	"strings"

	"facsimile/api"
)

// lcg is a row of numbers that look mixed, the same in each run.
type lcg uint64

func (r *lcg) below(n int) int {
	*r = *r*6364136223846793005 + 1442695040888963407
	return int(uint64(*r)>>33) % n
}

// setOf is the set of the bytes of s, by what package api says of sets.
func setOf(s string) api.Set {
	var set api.Set
	for _, b := range []byte(s) {
		set[b/64] |= 1 << (b % 64)
	}
	return set
}

// in reports whether b is in s.
func in(s api.Set, b byte) bool {
	return s[b/64]>>(b%64)&1 == 1
}

// span is the set of the bytes from lo to hi.
func span(lo, hi byte) api.Set {
	var s api.Set
	for b := int(lo); b <= int(hi); b++ {
		s[b/64] |= 1 << (b % 64)
	}
	return s
}

// kinds are the signs of the steps other than RxSet: a dot is RxCat.
var kinds = map[byte]api.RxKind{'e': 2, '.': 3, '|': 4, '*': 5, '+': 6, '?': 7}

// needs is how many operands the steps of each kind have.
var needs = map[api.RxKind]int{1: 0, 2: 0, 3: 2, 4: 2, 5: 1, 6: 1, 7: 1}

// sets are the signs of RxSets of other than one byte.
var sets = map[byte]api.Set{
	'0': {}, 'x': setOf("ab"), 'y': setOf("bc"), '1': span(0, 255), 'h': span(128, 255),
}

// steps turns a text into steps by their signs; any other byte is the RxSet of itself.
func steps(s string) []api.Rx {
	var l []api.Rx
	for i := range len(s) {
		if kind, ok := kinds[s[i]]; ok {
			l = append(l, api.Rx{Kind: kind})
			continue
		}
		set, ok := sets[s[i]]
		if !ok {
			set = setOf(s[i : i+1])
		}
		l = append(l, api.Rx{Kind: api.RxSet, Set: set})
	}
	return l
}

// eachExpression calls see with all expressions of up to n of the signs.
func eachExpression(signs string, n int, see func(s string)) {
	var grow func(s string, parts int)
	grow = func(s string, parts int) {
		if parts == 1 {
			see(s)
		}
		if len(s) == n {
			return
		}
		for i := range len(signs) {
			need := needs[kinds[signs[i]]]
			if parts >= need && parts-need+1 <= n-len(s) {
				grow(s+signs[i:i+1], parts-need+1)
			}
		}
	}
	grow("", 0)
}

// mixed returns an expression of at least n steps, a few more at most, the same for the same numbers.
func mixed(r *lcg, signs string, n int) string {
	var s strings.Builder
	for parts := 0; s.Len() < n || parts > 1; {
		sign := signs[r.below(len(signs))]
		need := needs[kinds[sign]]
		if s.Len() >= n {
			sign, need = ".|"[r.below(2)], 2
		}
		if parts >= need && parts-need < 6 {
			s.WriteByte(sign)
			parts += 1 - need
		}
	}
	return s.String()
}

// operands splits an expression into its operands and its last step.
func operands(l []api.Rx) (a, b []api.Rx, last api.Rx) {
	before, last := l[:len(l)-1], l[len(l)-1]
	if needs[last.Kind] < 2 {
		return before, nil, last
	}
	missing, at := 1, len(before)
	for missing > 0 {
		at--
		missing += needs[before[at].Kind] - 1
	}
	return before[:at], before[at:], last
}

// words are all words of up to n bytes that l matches, as the chapter defines it.
func words(l []api.Rx, n int) map[string]bool {
	all := map[string]bool{}
	a, b, last := operands(l)
	switch last.Kind {
	case api.RxSet:
		for c := range 256 {
			if n > 0 && in(last.Set, byte(c)) {
				all[string([]byte{byte(c)})] = true
			}
		}
		return all
	case api.RxEmpty:
		return map[string]bool{"": true}
	case api.RxCat:
		return joined(words(a, n), words(b, n), n)
	}
	first := words(a, n)
	for w := range first {
		all[w] = true
	}
	switch last.Kind {
	case api.RxAlt:
		for w := range words(b, n) {
			all[w] = true
		}
		return all
	case api.RxStar, api.RxOpt:
		all[""] = true
	}
	if last.Kind != api.RxOpt {
		for before := -1; len(all) > before; {
			before = len(all)
			for w := range joined(all, first, n) {
				all[w] = true
			}
		}
	}
	return all
}

// joined are all words of up to n bytes that are a word of a and a word of b.
func joined(a, b map[string]bool, n int) map[string]bool {
	all := map[string]bool{}
	for v := range a {
		for w := range b {
			if len(v)+len(w) <= n {
				all[v+w] = true
			}
		}
	}
	return all
}

// texts are all texts of up to n of the signs.
func texts(signs string, n int) []string {
	l := []string{""}
	for from := 0; len(l[from]) < n; from++ {
		for i := range len(signs) {
			l = append(l, l[from]+signs[i:i+1])
		}
	}
	return l
}

// facts are what the calls must answer of an expression.
type facts struct {
	null              bool
	shortest, longest int
	first, used       api.Set
}

// factsIn are the facts of words, if there are no others.
func factsIn(words map[string]bool) facts {
	f := facts{shortest: -1, longest: -1, null: words[""]}
	for w := range words {
		if f.shortest < 0 || len(w) < f.shortest {
			f.shortest = len(w)
		}
		f.longest = max(f.longest, len(w))
		for i := range len(w) {
			f.used[w[i]/64] |= 1 << (w[i] % 64)
		}
		if w != "" {
			f.first[w[0]/64] |= 1 << (w[0] % 64)
		}
	}
	return f
}

// wantFacts finds the facts of l in its words. With k sets there are k + 1 states between the bytes of a word: a byte
// that is in words is in one of up to 2 * k bytes, and a word of more than k bytes is there exactly if words of any
// length are, one of k + 1 to 2 * k + 1 bytes among them.
func wantFacts(l []api.Rx) facts {
	k := 0
	for _, s := range l {
		if s.Kind == api.RxSet {
			k++
		}
	}
	f := factsIn(words(l, 2*k+1))
	if f.longest > k {
		f.longest = -2
	}
	return f
}

// relation tells for each two indexes of a text whether a word stands from the one to the other.
type relation [][]bool

func newRelation(n int) relation {
	r := make(relation, n+1)
	for i := range r {
		r[i] = make([]bool, n+1)
	}
	return r
}

// through is the relation of a word of r and a word of q behind it.
func (r relation) through(q relation) relation {
	both := newRelation(len(r) - 1)
	for i := range r {
		for k := range r {
			if !r[i][k] {
				continue
			}
			for j := range r {
				both[i][j] = both[i][j] || q[k][j]
			}
		}
	}
	return both
}

// and adds what q has to r.
func (r relation) and(q relation) relation {
	for i := range r {
		for j := range r {
			r[i][j] = r[i][j] || q[i][j]
		}
	}
	return r
}

// stands is the relation of the words of l in w; the words of each part are told of each two indexes.
func stands(l []api.Rx, w string) relation {
	a, b, last := operands(l)
	empty := newRelation(len(w))
	for i := range empty {
		empty[i][i] = true
	}
	switch last.Kind {
	case api.RxSet:
		r := newRelation(len(w))
		for i := range len(w) {
			r[i][i+1] = in(last.Set, w[i])
		}
		return r
	case api.RxEmpty:
		return empty
	case api.RxCat:
		return stands(a, w).through(stands(b, w))
	case api.RxAlt:
		return stands(a, w).and(stands(b, w))
	case api.RxOpt:
		return stands(a, w).and(empty)
	}
	one := stands(a, w)
	all := newRelation(len(w)).and(one)
	// No word is longer than w: more than that many words, beside empty ones, do not stand in it.
	for range len(w) {
		all.and(all.through(one))
	}
	if last.Kind == api.RxStar {
		all.and(empty)
	}
	return all
}

// ends are the indexes that r tells of at.
func (r relation) ends(at int) []int {
	var l []int
	for j := range r[at] {
		if r[at][j] {
			l = append(l, j)
		}
	}
	return l
}

// wrong are lists of steps that are no expressions.
func wrong() map[string][]api.Rx {
	return map[string][]api.Rx{
		"nil":                     nil,
		"no steps":                {},
		"an operator alone":       steps("*"),
		"a RxCat of one":          steps("a."),
		"a RxAlt of none":         steps("|"),
		"two parts":               steps("ab"),
		"two parts, one empty":    steps("ea"),
		"an operator too early":   steps("a|b"),
		"a kind below all":        {{Kind: 0}},
		"a negative kind":         {{Kind: -1}},
		"a kind above all":        {{Kind: 8}},
		"a great kind":            {{Kind: 1 << 62, Set: setOf("a")}},
		"a wrong step, then more": slices.Concat(steps("a"), []api.Rx{{Kind: 9}}, steps("b.")),
		"a RxEmpty with a Set":    {{Kind: api.RxEmpty, Set: setOf("a")}},
		"a RxStar with a Set":     {steps("a")[0], {Kind: api.RxStar, Set: setOf("a")}},
		"513 steps":               steps("a" + strings.Repeat("*", 512)),
		"513 steps of 257 sets":   steps("a" + strings.Repeat("b.", 256)),
		"513 steps of 257 bytes":  steps(strings.Repeat("a", 257) + strings.Repeat(".", 256)),
		"very many steps":         steps(strings.Repeat("a", 1<<17) + strings.Repeat("|", 1<<17-1)),
	}
}
