package rx

import (
	"math"
	"slices"
	"strings"
	"testing"

	"facsimile/api"
)

// letters is a set of bytes as its words.
var letters = api.Set{0, 6, 1 << 63, 1}

// needs is how many parts the steps of each kind take.
var needs = map[api.RxKind]int{
	api.RxSet: 0, api.RxEmpty: 0, api.RxCat: 2, api.RxAlt: 2, api.RxStar: 1, api.RxPlus: 1, api.RxOpt: 1,
}

// steps turns a text into steps: s is a RxSet, e RxEmpty, . RxCat, | RxAlt, * + and ? are theirs, 0 and 8 kinds that
// do not exist, ! a RxCat with a Set, and any other byte the RxSet of itself.
func steps(s string) []api.Rx {
	var l []api.Rx
	for _, b := range []byte(s) {
		switch b {
		case 's':
			l = append(l, api.Rx{Kind: api.RxSet, Set: letters})
		case 'e':
			l = append(l, api.Rx{Kind: api.RxEmpty})
		case '.':
			l = append(l, api.Rx{Kind: api.RxCat})
		case '|':
			l = append(l, api.Rx{Kind: api.RxAlt})
		case '*':
			l = append(l, api.Rx{Kind: api.RxStar})
		case '+':
			l = append(l, api.Rx{Kind: api.RxPlus})
		case '?':
			l = append(l, api.Rx{Kind: api.RxOpt})
		case '0':
			l = append(l, api.Rx{})
		case '8':
			l = append(l, api.Rx{Kind: 8})
		case '!':
			l = append(l, api.Rx{Kind: api.RxCat, Set: letters})
		default:
			one := api.Rx{Kind: api.RxSet}
			one.Set[b>>6] = 1 << (b & 63)
			l = append(l, one)
		}
	}
	return l
}

// written are all texts of up to n of the signs.
func written(signs string, n int) []string {
	l := []string{""}
	for from := 0; len(l[from]) < n; from++ {
		for i := range len(signs) {
			l = append(l, l[from]+signs[i:i+1])
		}
	}
	return l
}

// manyLists are all lists of up to a few steps, of all kinds or of some.
func manyLists() []string {
	return slices.Concat(written("se.|*+?08!", 4), written("s.*0", 7), written("se.", 9))
}

// expressions are all expressions of up to 5 steps.
func expressions() [][]api.Rx {
	var l [][]api.Rx
	for _, s := range slices.Concat(written("se.|*+?", 4), written("s.*", 5)) {
		if part(steps(s)) {
			l = append(l, steps(s))
		}
	}
	return l
}

// part reports whether l is a part, as the chapter defines it.
func part(l []api.Rx) bool {
	if len(l) == 0 {
		return false
	}
	before := l[:len(l)-1]
	n, ok := needs[l[len(l)-1].Kind]
	switch {
	case !ok:
		return false
	case n == 0:
		return len(before) == 0
	case n == 1:
		return part(before)
	}
	for i := range before {
		if part(before[:i]) && part(before[i:]) {
			return true
		}
	}
	return false
}

// wantBegin is where the part begins that ends with the step i, tried at all places.
func wantBegin(l []api.Rx, i int) int {
	for at := range i + 1 {
		if part(l[at : i+1]) {
			return at
		}
	}
	return -1
}

// count returns how many parts l is, one behind the other; l is made of parts.
func count(l []api.Rx) int {
	if len(l) == 0 {
		return 0
	}
	return 1 + count(l[:wantBegin(l, len(l)-1)])
}

// wantCheck is what Check must return, and High.
func wantCheck(l []api.Rx) (api.Errno, int) {
	if len(l) > 512 {
		return api.ErrLong, 0
	}
	high := 0
	for i, s := range l {
		n, ok := needs[s.Kind]
		if !ok || s.Kind != api.RxSet && s.Set != (api.Set{}) {
			return api.ErrArg, 0
		}
		if count(l[:i]) < n {
			return api.ErrForm, 0
		}
		high = max(high, count(l[:i+1]))
	}
	if !part(l) {
		return api.ErrForm, 0
	}
	return api.OK, high
}

// measures tests Check, High and Begin of l against what they must return.
func measures(t *testing.T, name string, l []api.Rx) {
	t.Helper()
	e, high := wantCheck(l)
	if got := Check(l); got != e {
		t.Errorf("Check of %q is %d, not %d", name, got, e)
	}
	if got := High(l); got != high {
		t.Errorf("High of %q is %d, not %d", name, got, high)
	}
	for i := range l {
		if got, want := Begin(l, i), wantBegin(l, i); got != want {
			t.Errorf("Begin of %q at %d is %d, not %d", name, i, got, want)
		}
	}
}

// is tests a list of steps against the ones that it must be.
func is(t *testing.T, name string, got, want []api.Rx) {
	t.Helper()
	if !slices.Equal(got, want) {
		t.Errorf("%s: %v, not %v", name, got, want)
	}
}

// built are all constructors, each with some arguments.
func built(a, b []api.Rx) map[string][]api.Rx {
	return map[string][]api.Rx{
		"Set": Set(letters), "Empty": Empty(), "Cat": Cat(a, b), "Cat of one": Cat(a), "Cat of none": Cat(),
		"Alt": Alt(a, b), "Alt of one": Alt(a), "Alt of none": Alt(), "Cat of same": Cat(a, a), "Alt of same": Alt(b, b, b),
		"Star": Star(a), "Plus": Plus(a), "Opt": Opt(a), "Text": Text("ab"), "no Text": Text(""),
	}
}

func TestP701SameAgain(t *testing.T) {
	for _, s := range manyLists() {
		l := steps(s)
		if Check(l) != Check(l) || High(l) != High(l) || Begin(l, len(l)-1) != Begin(l, len(l)-1) || !Same(l, l) {
			t.Errorf("results differ from call to call: %q", s)
		}
	}
	for _, a := range []string{"", "s", "ab.", "0", "*"} {
		first, again := built(steps(a), steps("e?")), built(steps(a), steps("e?"))
		for name, l := range first {
			is(t, name+" again, of "+a, again[name], l)
		}
	}
}

// What a caller does to a result, behind its end too, is seen neither in another result nor in the arguments.
func TestP701NewMemory(t *testing.T) {
	a, b := steps("ab.s+"), steps("e|")
	want := built(steps("ab.s+"), steps("e|"))
	kept := built(a, b)
	for name, l := range built(a, b) {
		whole := l[:cap(l)]
		for i := range whole {
			whole[i] = api.Rx{Kind: 99, Set: letters}
		}
		is(t, "an argument, after a change of "+name, a, steps("ab.s+"))
		is(t, "an argument, after a change of "+name, b, steps("e|"))
		is(t, name+", after a change of the same", kept[name], want[name])
	}
	for name, l := range built(a, b) {
		is(t, name+", after changes of all results", l, want[name])
	}
}

// Arguments are neither changed nor kept, nor is what is behind their ends; nor is the list of the arguments.
func TestP701Arguments(t *testing.T) {
	for n := range 6 {
		whole := steps("ab.c*|")
		part := whole[:n]
		results := built(part, part)
		l := [][]api.Rx{part, steps("e"), part, steps("s?")}
		results["Cat of a list"], results["Alt of a list"] = Cat(l[:3]...), Alt(l[:3]...)
		Check(part)
		High(part)
		Same(part, part)
		for i := range 6 {
			Begin(part, i)
		}
		is(t, "what stands at and behind an argument", whole, steps("ab.c*|"))
		is(t, "the list of the arguments", l[0], steps("ab.c*|")[:n])
		is(t, "the list of the arguments", l[1], steps("e"))
		is(t, "the list of the arguments", l[2], steps("ab.c*|")[:n])
		is(t, "what stands behind the list of the arguments", l[3], steps("s?"))
		for i := range whole {
			whole[i] = api.Rx{Kind: 99, Set: letters}
		}
		fresh := steps("ab.c*|")[:n]
		want := built(fresh, fresh)
		want["Cat of a list"], want["Alt of a list"] = Cat(fresh, steps("e"), fresh), Alt(fresh, steps("e"), fresh)
		for name, got := range results {
			is(t, name+", after a change of the arguments", got, want[name])
		}
	}
}

func TestP701Long(t *testing.T) {
	const n = 1 << 19
	l := Text(strings.Repeat("ab", n/2))
	if len(l) != 2*n-1 {
		t.Fatal("Text of a long text has steps:", len(l))
	}
	if e := Check(l); e != api.ErrLong {
		t.Error("Check of a long list:", e)
	}
	if high := High(l); high != 0 {
		t.Error("High of a long list:", high)
	}
	if at := Begin(l, 2*n-2); at != 0 {
		t.Error("Begin of a long list, of its last step:", at)
	}
	if at := Begin(l, 2*n-3); at != 2*n-3 {
		t.Error("Begin of a long list, of its last RxSet:", at)
	}
	if !Same(l, Text(strings.Repeat("ab", n/2))) || Same(l, l[:2*n-2]) {
		t.Error("Same of long lists")
	}
	deep := steps(strings.Repeat("a", n) + strings.Repeat(".", n-1))
	if at := Begin(deep, 2*n-2); at != 0 {
		t.Error("Begin of a long list with its operators at its end:", at)
	}
	if at := Begin(deep[1:], 2*n-3); at != -1 {
		t.Error("Begin of a long list without its first step:", at)
	}
	parts := make([][]api.Rx, n)
	if got := Alt(parts...); len(got) != n-1 || got[0].Kind != api.RxAlt || got[n-2].Kind != api.RxAlt {
		t.Error("Alt of many empty lists:", len(got))
	}
	if got := Star(l); len(got) != 2*n || got[2*n-1].Kind != api.RxStar {
		t.Error("Star of a long list:", len(got))
	}
}

func TestP702Check(t *testing.T) {
	for s, want := range map[string]api.Errno{
		"":      api.ErrForm,
		"s":     api.OK,
		"e":     api.OK,
		"ab.":   api.OK,
		"ab|":   api.OK,
		"a*":    api.OK,
		"a+":    api.OK,
		"a?":    api.OK,
		"e*+?":  api.OK,
		"ab.c.": api.OK,
		"abc..": api.OK,
		"ab":    api.ErrForm,
		"ab.c":  api.ErrForm,
		"abc.":  api.ErrForm,
		"*":     api.ErrForm,
		"+":     api.ErrForm,
		"?":     api.ErrForm,
		".":     api.ErrForm,
		"|":     api.ErrForm,
		"a.":    api.ErrForm,
		"a|":    api.ErrForm,
		"a.b":   api.ErrForm,
		"*a":    api.ErrForm,
		"0":     api.ErrArg,
		"8":     api.ErrArg,
		"a0":    api.ErrArg,
		"ab!":   api.ErrArg,
		"!":     api.ErrArg,  // the step is wrong before its operands are counted
		".0":    api.ErrForm, // the first wrong step counts
		"0.":    api.ErrArg,
		"ab8":   api.ErrArg, // the end is looked at last
		"a*.8":  api.ErrForm,
	} {
		if got := Check(steps(s)); got != want {
			t.Errorf("Check of %q is %d, not %d", s, got, want)
		}
	}
	if e := Check([]api.Rx{}); e != api.ErrForm {
		t.Error("Check of no steps:", e)
	}
}

// Check, High and Begin of all short lists.
func TestP702ShortLists(t *testing.T) {
	for _, s := range manyLists() {
		measures(t, s, steps(s))
	}
}

func TestP702Kinds(t *testing.T) {
	for _, kind := range []api.RxKind{
		math.MinInt, math.MinInt + 1, math.MinInt + 3, -1 << 32, -1<<32 + 1, -255, -7, -2, -1, 0, 8, 9, 10, 255, 256, 257, 259,
		1<<16 + 1, 1<<32 + 1, 1<<32 + 5, math.MaxInt,
	} {
		one := []api.Rx{{Kind: kind}}
		for _, l := range [][]api.Rx{one, slices.Concat(one, one), Star(one), Cat(steps("a"), one), Alt(one, steps("a"))} {
			if e := Check(l); e != api.ErrArg {
				t.Errorf("Check of a step of the kind %d: %d", kind, e)
			}
			if high := High(l); high != 0 {
				t.Errorf("High of a step of the kind %d: %d", kind, high)
			}
			if at := Begin(l, len(l)-1); at != -1 {
				t.Errorf("Begin of a step of the kind %d: %d", kind, at)
			}
		}
	}
}

// A Set belongs to a RxSet alone, whichever its bit; a RxSet may have none.
func TestP702Sets(t *testing.T) {
	for bit := range 256 {
		var s api.Set
		s[bit/64] = 1 << (bit % 64)
		for kind := api.RxSet; kind <= api.RxOpt; kind++ {
			l := slices.Concat(steps("ab")[:needs[kind]], []api.Rx{{Kind: kind, Set: s}})
			want := api.ErrArg
			if kind == api.RxSet {
				want = api.OK
			}
			if got := Check(l); got != want {
				t.Errorf("Check of a step of the kind %d with the byte %d is %d, not %d", kind, bit, got, want)
			}
			if got := High(l); (got == 1) != (kind == api.RxSet) || got > 1 {
				t.Errorf("High of a step of the kind %d with the byte %d: %d", kind, bit, got)
			}
			if at := Begin(l, len(l)-1); at != 0 {
				t.Errorf("Begin of a step of the kind %d with the byte %d: %d", kind, bit, at)
			}
		}
	}
	if e := Check(Set(api.Set{})); e != api.OK {
		t.Error("Check of the empty set:", e)
	}
}

func TestP702LongLists(t *testing.T) {
	if api.MaxRx != 512 {
		t.Error("MaxRx:", api.MaxRx)
	}
	line := strings.Repeat
	for _, x := range []struct {
		s    string
		e    api.Errno
		high int
	}{
		{"a" + line("*", 511), api.OK, 1},
		{"a" + line("*", 512), api.ErrLong, 0},
		{"a" + line("b.", 255), api.OK, 2},
		{"a" + line("b.", 255) + "?", api.OK, 2},
		{"a" + line("b.", 255) + "??", api.ErrLong, 0},
		{line("a", 256) + line("|", 255), api.OK, 256},
		{line("a", 256) + line("|", 255) + "+", api.OK, 256},
		{line("a", 257) + line("|", 256), api.ErrLong, 0},
		{line("a", 512), api.ErrForm, 0},
		{line("a", 513), api.ErrLong, 0},
		{line("0", 513), api.ErrLong, 0},
		{line("*", 513), api.ErrLong, 0},
		{line("0", 512), api.ErrArg, 0},
		{line("*", 512), api.ErrForm, 0},
	} {
		l := steps(x.s)
		if e := Check(l); e != x.e {
			t.Errorf("Check of %q is %d, not %d", x.s, e, x.e)
		}
		if high := High(l); high != x.high {
			t.Errorf("High of %q is %d, not %d", x.s, high, x.high)
		}
	}
}

func TestP702Begin(t *testing.T) {
	for _, x := range []struct {
		s       string
		i, want int
	}{
		{"", 0, -1},
		{"", -1, -1},
		{"a", 0, 0},
		{"a", 1, -1},
		{"a", -1, -1},
		{"a", 2, -1},
		{"ab.", 2, 0},
		{"ab.", 1, 1},
		{"ab.", 0, 0},
		{"ab.", 3, -1},
		{"ab.c*|", 5, 0},
		{"ab.c*|", 4, 3},
		{"ab.c*|", 3, 3},
		{"ab.c*|", 2, 0},
		{"abc", 2, 2},
		{"abc.", 3, 1},
		{"abcd.|", 5, 1},
		{"*", 0, -1},
		{"a.", 1, -1},
		{"a.b", 2, 2}, // steps that are no part stand ahead
		{"0ab.", 3, 1},
		{"ab.0", 2, 0}, // and behind
		{"ab.0", 3, -1},
		{"a0.", 2, -1},
		{"0a.", 2, -1},
		{"a0b", 2, 2},
		{"ab!", 2, 0}, // the Kinds alone count
		{"8*", 1, -1},
		{"*a.", 2, -1},
		{"a*b.", 3, 0},
	} {
		if got := Begin(steps(x.s), x.i); got != x.want {
			t.Errorf("Begin of %q at %d is %d, not %d", x.s, x.i, got, x.want)
		}
	}
	for _, i := range []int{math.MinInt, math.MinInt + 1, -1 << 32, -3, 3, 1 << 32, 1<<32 + 2, math.MaxInt - 1, math.MaxInt} {
		for _, l := range [][]api.Rx{nil, {}, steps("ab.")} {
			if got := Begin(l, i); got != -1 {
				t.Errorf("Begin of %v at %d is %d", l, i, got)
			}
		}
	}
}

// A list may be longer than an expression: the part counts.
func TestP702BeginLong(t *testing.T) {
	l := slices.Concat(steps(strings.Repeat("0", 600)), steps("a"+strings.Repeat("b.", 300)), steps(strings.Repeat("0", 600)))
	if at := Begin(l, 1200); at != 600 {
		t.Error("Begin of a part of 601 steps:", at)
	}
}

func TestP702High(t *testing.T) {
	for s, want := range map[string]int{
		"":          0,
		"a":         1,
		"e":         1,
		"a*":        1,
		"ab.":       2,
		"ab.c.d.":   2,
		"abcd...":   4,
		"ab|cd|.":   3,
		"abc.|de.|": 3,
		"a*b+c?..":  3,
		"ab":        0,
		"abc.":      0,
		"*":         0,
		"ab.0":      0,
		"abc..!":    0,
		"ab!":       0,
	} {
		if got := High(steps(s)); got != want {
			t.Errorf("High of %q is %d, not %d", s, got, want)
		}
	}
}

func TestP702Same(t *testing.T) {
	all := written("se.0!", 3)
	for _, a := range all {
		for _, b := range all {
			if got := Same(steps(a), steps(b)); got != (a == b) {
				t.Errorf("Same of %q and %q is %t", a, b, got)
			}
		}
	}
	if !Same(nil, nil) || !Same(nil, []api.Rx{}) || !Same([]api.Rx{}, nil) || Same(nil, steps("e")) {
		t.Error("Same of no steps")
	}
	for bit := range 256 {
		l := steps("asb..")
		l[1].Set[bit/64] ^= 1 << (bit % 64)
		if Same(l, steps("asb..")) || Same(steps("asb.."), l) || !Same(l, slices.Clone(l)) {
			t.Error("Same of Sets that differ in the byte", bit)
		}
	}
	if Same([]api.Rx{{Kind: 1}}, []api.Rx{{Kind: 1<<32 + 1}}) || !Same([]api.Rx{{Kind: math.MinInt}}, []api.Rx{{Kind: math.MinInt}}) {
		t.Error("Same of other kinds")
	}
}

func TestP703Single(t *testing.T) {
	for _, s := range []api.Set{{}, {1}, letters, {1, 2, 3, 4}, {math.MaxUint64, math.MaxUint64, math.MaxUint64, math.MaxUint64}} {
		is(t, "Set", Set(s), []api.Rx{{Kind: 1, Set: s}})
	}
	is(t, "Empty", Empty(), []api.Rx{{Kind: 2}})
}

// In what is wanted, & stands for the step that joins.
func TestP703Joined(t *testing.T) {
	for _, x := range []struct{ parts, want string }{
		{"a", "a"},
		{"a,b", "ab&"},
		{"a,b,c", "ab&c&"},
		{"a,b,c,d", "ab&c&d&"},
		{"ab.,cd|*,e", "ab.cd|*&e&"},
		{"a,bc.", "abc.&"},
		{"", ""},
		{",", "&"},
		{"a,", "a&"},
		{",a", "a&"},
		{",,", "&&"},
		{"ab,*", "ab*&"},
		{"0", "0"},
		{"0,!,8", "0!&8&"},
		{"s,s,s", "ss&s&"},
	} {
		var parts [][]api.Rx
		for _, s := range strings.Split(x.parts, ",") {
			parts = append(parts, steps(s))
		}
		is(t, "Cat of "+x.parts, Cat(parts...), steps(strings.ReplaceAll(x.want, "&", ".")))
		is(t, "Alt of "+x.parts, Alt(parts...), steps(strings.ReplaceAll(x.want, "&", "|")))
	}
}

func TestP703NoParts(t *testing.T) {
	for _, none := range [][][]api.Rx{nil, {}} {
		is(t, "Cat of no parts", Cat(none...), []api.Rx{{Kind: api.RxEmpty}})
		is(t, "Alt of no parts", Alt(none...), []api.Rx{{Kind: api.RxSet}})
	}
	is(t, "Cat of nil", Cat(nil), nil)
	is(t, "Alt of nil", Alt(nil), nil)
}

func TestP703OneOperand(t *testing.T) {
	for _, s := range slices.Concat(manyLists(), []string{strings.Repeat("a", 600)}) {
		is(t, "Star of "+s, Star(steps(s)), steps(s+"*"))
		is(t, "Plus of "+s, Plus(steps(s)), steps(s+"+"))
		is(t, "Opt of "+s, Opt(steps(s)), steps(s+"?"))
	}
	is(t, "Star of nil", Star(nil), steps("*"))
	is(t, "Plus of nil", Plus(nil), steps("+"))
	is(t, "Opt of nil", Opt(nil), steps("?"))
}

func TestP703Text(t *testing.T) {
	is(t, "Text of no byte", Text(""), []api.Rx{{Kind: api.RxEmpty}})
	is(t, "Text of a", Text("a"), []api.Rx{{Kind: api.RxSet, Set: api.Set{0, 1 << 33, 0, 0}}})
	is(t, "Text of ab", Text("ab"), []api.Rx{
		{Kind: api.RxSet, Set: api.Set{0, 1 << 33}}, {Kind: api.RxSet, Set: api.Set{0, 1 << 34}}, {Kind: api.RxCat},
	})
	is(t, "Text of bytes that are no characters", Text("\xff\x00\xc3"), []api.Rx{
		{Kind: api.RxSet, Set: api.Set{0, 0, 0, 1 << 63}}, {Kind: api.RxSet, Set: api.Set{1}}, {Kind: api.RxCat},
		{Kind: api.RxSet, Set: api.Set{0, 0, 0, 8}}, {Kind: api.RxCat},
	})
	for _, s := range []string{"\u00e9", "\u20ac", "\U0001f600", "a\u00e9\ufffd\xff\u00e9"} {
		var parts [][]api.Rx
		for i := range len(s) {
			parts = append(parts, Text(s[i:i+1]))
		}
		is(t, "Text of characters of some bytes", Text(s), Cat(parts...))
	}
	for a := range 256 {
		one := string([]byte{byte(a)})
		l := Text(one)
		if len(l) != 1 || l[0].Kind != api.RxSet {
			t.Fatal("Text of the byte", a, l)
		}
		for b := range 256 {
			if in := l[0].Set[b/64]>>(b%64)&1 == 1; in != (a == b) {
				t.Errorf("Text of the byte %d has the byte %d", a, b)
			}
		}
		is(t, "Text of three bytes", Text("x"+one+"y"), Cat(Text("x"), l, Text("y")))
	}
}

// What is made of expressions is an expression, or too long; its last step's part is all of it.
func TestP704Parts(t *testing.T) {
	l := expressions()
	for _, a := range l {
		results := map[string][]api.Rx{"Set": Set(letters), "Empty": Empty(), "Cat of none": Cat(), "Alt of none": Alt(), "Star": Star(a), "Plus": Plus(a), "Opt": Opt(a), "Cat": Cat(a), "Alt": Alt(a)}
		for _, b := range l {
			results["Cat of two"], results["Alt of two"] = Cat(a, b), Alt(a, b)
			results["Cat of three"], results["Alt of three"] = Cat(a, b, a), Alt(b, a, b)
			for name, got := range results {
				if e, at := Check(got), Begin(got, len(got)-1); e != api.OK || at != 0 {
					t.Errorf("%s of %v and %v: Check is %d, Begin is %d", name, a, b, e, at)
				}
			}
		}
	}
}

func TestP704TooLong(t *testing.T) {
	for n := 250; n < 264; n++ {
		l := Text(strings.Repeat("a", n))
		for name, got := range map[string][]api.Rx{"Text": l, "Star": Star(l), "Cat": Cat(l, Empty()), "Alt": Alt(Set(letters), l)} {
			want := api.OK
			if len(got) > 512 {
				want = api.ErrLong
			}
			if e, at := Check(got), Begin(got, len(got)-1); e != want || at != 0 {
				t.Errorf("%s of %d bytes: Check is %d, Begin is %d", name, n, e, at)
			}
		}
	}
}

func TestP705High(t *testing.T) {
	l := expressions()
	for _, s := range []string{"a", "ab", "abc"} {
		l = append(l, Text(s))
	}
	for n := range 6 {
		l = append(l, steps(strings.Repeat("a", n+1)+strings.Repeat("|", n)))
	}
	for _, a := range l {
		for _, b := range l {
			want := max(High(a), High(b)+1)
			if cat, alt := High(Cat(a, b)), High(Alt(a, b)); cat != want || alt != want {
				t.Errorf("High of Cat and Alt of %v and %v: %d and %d, not %d", a, b, cat, alt, want)
			}
		}
		if High(Star(a)) != High(a) || High(Plus(a)) != High(a) || High(Opt(a)) != High(a) {
			t.Errorf("High of Star, Plus or Opt of %v is not its own, %d", a, High(a))
		}
	}
}
