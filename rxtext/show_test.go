package rxtext

import (
	"fmt"
	"math"
	"slices"
	"strings"
	"testing"

	"facsimile/api"
	"facsimile/rx"
)

// wantForm is the byte b, as it is printed where some bytes are reserved.
func wantForm(b int, reserved string) string {
	switch {
	case b == 10:
		return `\n`
	case b == 9:
		return `\t`
	case b == 13:
		return `\r`
	case b < 33 || b > 126:
		return fmt.Sprintf(`\x%02x`, b)
	case strings.IndexByte(reserved, byte(b)) >= 0:
		return `\` + string(rune(b))
	}
	return string(rune(b))
}

// wantSet is what ShowSet must return for m.
func wantSet(m bytesOf) string {
	n := m.count()
	switch {
	case n == 0:
		return `[^\x00-\xff]`
	case n == 1:
		return wantForm(slices.Index(m[:], true), "()[]|*+?.\\")
	case m == dotted:
		return "."
	case n > 128 && n < 256:
		return "[^" + wantItems(m.not()) + "]"
	}
	return "[" + wantItems(m) + "]"
}

func wantItems(m bytesOf) string {
	s := ""
	for lo := 0; lo < 256; lo++ {
		if !m[lo] {
			continue
		}
		hi := lo
		for hi < 255 && m[hi+1] {
			hi++
		}
		first, last := wantForm(lo, "[]^-\\"), wantForm(hi, "[]^-\\")
		switch hi - lo {
		case 0:
			s += first
		case 1:
			s += first + last
		default:
			s += first + "-" + last
		}
		lo = hi
	}
	return s
}

// eachSet calls see with sets: all of one byte and of all bytes but one, all spans, and mixed sets, sparse and dense;
// with all other bytes too.
func eachSet(see func(m bytesOf)) {
	both := func(m bytesOf) {
		see(m)
		see(m.not())
	}
	both(bytesOf{})
	for lo := range 256 {
		for hi := lo; hi < 256; hi++ {
			both(where(func(b int) bool { return b >= lo && b <= hi }))
		}
	}
	for b := range 255 {
		both(where(func(c int) bool { return c == b || c == (b+97)%256 }))
	}
	for by := 2; by < 6; by++ {
		for rest := range by {
			both(where(func(b int) bool { return b%by == rest }))
			both(where(func(b int) bool { return b/by%2 == 0 != (b > 40*rest) }))
		}
	}
	r := lcg(1)
	for n := range 3000 {
		both(where(func(int) bool { return r.below(60) < n%60 }))
	}
}

func TestP803SetExamples(t *testing.T) {
	for _, x := range []struct {
		m    bytesOf
		want string
	}{
		{bytesOf{}, `[^\x00-\xff]`},
		{bytesOf{}.not(), `[\x00-\xff]`},
		{dotted, "."},
		{dotted.not(), `\n`},
		{only("a"), "a"},
		{only("."), `\.`},
		{only("*"), `\*`},
		{only("]"), `\]`},
		{only("^"), "^"},
		{only("-"), "-"},
		{only(`\`), `\\`},
		{only("\""), "\""},
		{only(" "), `\x20`},
		{only("\x7f"), `\x7f`},
		{only("\xe9"), `\xe9`},
		{only("\t"), `\t`},
		{only("\r"), `\r`},
		{only("ab"), "[ab]"},
		{only("abc"), "[a-c]"},
		{only("abcx"), "[a-cx]"},
		{only("(|)*+?."), "[(-+.?|]"},
		{only("^-]["), `[\-\[\]\^]`},
		{only(`[\]`), `[\[-\]]`},
		{only("\t\n\r "), `[\t\n\r\x20]`},
		{only("\t\n\v"), `[\t-\x0b]`},
		{only("a").not(), "[^a]"},
		{only("\n\r").not(), `[^\n\r]`},
		{only("^").not(), `[^\^]`},
		{where(func(b int) bool { return b < 128 }), `[\x00-\x7f]`},
		{where(func(b int) bool { return b < 129 }), `[^\x81-\xff]`},
		{where(func(b int) bool { return b > 127 }), `[\x80-\xff]`},
		{where(func(b int) bool { return b > 126 }), `[^\x00-~]`},
	} {
		if got := ShowSet(x.m.set()); got != x.want {
			t.Errorf("ShowSet: %q, not %q", got, x.want)
		}
	}
}

func TestP803Sets(t *testing.T) {
	eachSet(func(m bytesOf) {
		if got, want := ShowSet(m.set()), wantSet(m); got != want {
			t.Errorf("ShowSet: %q, not %q", got, want)
		}
		if got := Show([]api.Rx{{Kind: api.RxSet, Set: m.set()}}); got != wantSet(m) {
			t.Errorf("Show of a set: %q, not %q", got, wantSet(m))
		}
	})
}

// tree is an expression as a tree: the operands of a step are below it.
type tree struct {
	kind api.RxKind
	m    bytesOf
	a, b *tree
}

func (x *tree) steps() []api.Rx {
	switch {
	case x.kind == api.RxSet:
		return one(x.m)
	case x.a == nil:
		return step(x.kind)
	case x.b == nil:
		return slices.Concat(x.a.steps(), step(x.kind))
	}
	return slices.Concat(x.a.steps(), x.b.steps(), step(x.kind))
}

// text is what Show must return for the steps of x.
func (x *tree) text() string {
	within := func(y *tree, kinds ...api.RxKind) string {
		if slices.Contains(kinds, y.kind) {
			return "(" + y.text() + ")"
		}
		return y.text()
	}
	switch x.kind {
	case api.RxSet:
		return wantSet(x.m)
	case api.RxEmpty:
		return "()"
	case api.RxAlt:
		return x.a.text() + "|" + within(x.b, api.RxAlt)
	case api.RxCat:
		return within(x.a, api.RxAlt) + within(x.b, api.RxAlt, api.RxCat)
	}
	sign := map[api.RxKind]string{api.RxStar: "*", api.RxPlus: "+", api.RxOpt: "?"}[x.kind]
	return within(x.a, api.RxAlt, api.RxCat) + sign
}

// treesOf are all trees of n steps, with one set.
func treesOf(n int, known map[int][]*tree) []*tree {
	if l, ok := known[n]; ok {
		return l
	}
	var l []*tree
	if n == 1 {
		l = []*tree{{kind: api.RxSet, m: only("a")}, {kind: api.RxEmpty}}
	}
	if n > 1 {
		for _, a := range treesOf(n-1, known) {
			l = append(l, &tree{kind: api.RxStar, a: a}, &tree{kind: api.RxPlus, a: a}, &tree{kind: api.RxOpt, a: a})
		}
	}
	for left := 1; left < n-1; left++ {
		for _, a := range treesOf(left, known) {
			for _, b := range treesOf(n-1-left, known) {
				l = append(l, &tree{kind: api.RxCat, a: a, b: b}, &tree{kind: api.RxAlt, a: a, b: b})
			}
		}
	}
	known[n] = l
	return l
}

// mixedTree is a tree of exactly n steps, with sets of few bytes or many.
func mixedTree(r *lcg, n int) *tree {
	switch {
	case n == 1 && r.below(8) == 0:
		return &tree{kind: api.RxEmpty}
	case n == 1:
		most := 1 + r.below(4)*r.below(90)
		return &tree{kind: api.RxSet, m: where(func(int) bool { return r.below(256) < most })}
	case n == 2 || r.below(5) == 0:
		return &tree{kind: api.RxStar + api.RxKind(r.below(3)), a: mixedTree(r, n-1)}
	}
	left := 1 + r.below(n-2)
	return &tree{kind: api.RxCat + api.RxKind(r.below(2)), a: mixedTree(r, left), b: mixedTree(r, n-1-left)}
}

// eachTree calls see with all small trees, and with mixed ones of up to 512 steps.
func eachTree(see func(x *tree)) {
	known := map[int][]*tree{}
	for n := 1; n < 7; n++ {
		for _, x := range treesOf(n, known) {
			see(x)
		}
	}
	r := lcg(7)
	for n := range 512 {
		see(mixedTree(&r, n+1))
		see(mixedTree(&r, 1+r.below(40)))
	}
}

func TestP803ShowExamples(t *testing.T) {
	for _, x := range []struct {
		l    []api.Rx
		want string
	}{
		{rx.Cat(rx.Text("a"), rx.Empty()), "a()"},
		{rx.Empty(), "()"},
		{rx.Text(""), "()"},
		{rx.Text("abc"), "abc"},
		{rx.Text("a.b\n c"), `a\.b\n\x20c`},
		{rx.Cat(rx.Text("a"), rx.Text("bc")), "a(bc)"},
		{rx.Alt(rx.Text("a"), rx.Text("b"), rx.Text("c")), "a|b|c"},
		{rx.Alt(rx.Text("a"), rx.Alt(rx.Text("b"), rx.Text("c"))), "a|(b|c)"},
		{rx.Alt(rx.Text("ab"), rx.Text("cd")), "ab|cd"},
		{rx.Cat(rx.Alt(rx.Text("a"), rx.Text("b")), rx.Alt(rx.Text("c"), rx.Text("d"))), "(a|b)(c|d)"},
		{rx.Star(rx.Text("ab")), "(ab)*"},
		{rx.Plus(rx.Alt(rx.Text("a"), rx.Empty())), "(a|())+"},
		{rx.Opt(rx.Star(rx.Plus(rx.Text("a")))), "a+*?"},
		{rx.Cat(rx.Text("a"), rx.Star(rx.Text("b"))), "ab*"},
		{rx.Cat(rx.Star(rx.Text("a")), rx.Text("b")), "a*b"},
		{rx.Star(rx.Empty()), "()*"},
		{rx.Alt(), `[^\x00-\xff]`},
	} {
		if got := Show(x.l); got != x.want {
			t.Errorf("Show: %q, not %q", got, x.want)
		}
	}
}

func TestP803Trees(t *testing.T) {
	eachTree(func(x *tree) {
		if got, want := Show(x.steps()), x.text(); got != want {
			t.Errorf("Show: %q, not %q", got, want)
		}
	})
}

// Show returns nothing for what is no expression.
func TestP803Wrong(t *testing.T) {
	a := rx.Text("a")
	wrong := [][]api.Rx{nil, {}, slices.Concat(a, a), step(api.RxStar), step(api.RxCat), rx.Cat(a, nil), {{Kind: api.RxEmpty, Set: api.Set{1}}}, rx.Star(rx.Text(strings.Repeat("a", 257))), rx.Text(strings.Repeat("a", 4000)), make([]api.Rx, 1<<16)}
	for _, kind := range []api.RxKind{math.MinInt, -1, 0, 8, 9, 1<<32 + 1, math.MaxInt} {
		wrong = append(wrong, step(kind), rx.Star(step(kind)), rx.Cat(a, step(kind)), slices.Concat(a, step(kind)))
	}
	for _, l := range wrong {
		if got := Show(l); got != "" {
			t.Errorf("Show of %d steps that are no expression: %q", len(l), got)
		}
	}
	if Show(rx.Text(strings.Repeat("a", 256))) != strings.Repeat("a", 256) {
		t.Error("Show of 511 steps")
	}
	if Show(rx.Star(rx.Text(strings.Repeat("a", 256)))) != "("+strings.Repeat("a", 256)+")*" {
		t.Error("Show of 512 steps")
	}
	if Show(slices.Concat(a, slices.Repeat(step(api.RxPlus), 511))) != "a"+strings.Repeat("+", 511) {
		t.Error("Show of 511 signs")
	}
}

func TestP804Sets(t *testing.T) {
	eachSet(func(m bytesOf) {
		s := ShowSet(m.set())
		reads(t, s, one(m), len(s), api.OK)
	})
}

func TestP804Trees(t *testing.T) {
	long, short := 0, 0
	eachTree(func(x *tree) {
		l := x.steps()
		s := Show(l)
		if len(s) > 4096 {
			long++
			reads(t, s, nil, 0, api.ErrLong)
			return
		}
		short++
		reads(t, s, l, len(s), api.OK)
	})
	if long < 10 || short < 1000 {
		t.Error("texts that are too long, and others:", long, short)
	}
}

// What is read is printed, and read again: the steps and the text are the same.
func TestP805(t *testing.T) {
	n := 0
	for _, x := range alphabets {
		eachText("", x.signs, x.n, func(s string, wrong int) {
			l, _, e := Read(s)
			if e != api.OK {
				return
			}
			n++
			shown := Show(l)
			again, at, e := Read(shown)
			if !slices.Equal(again, l) || at != len(shown) || e != api.OK || Show(again) != shown {
				t.Errorf("Read of %q is shown as %q, and read again as %v, %d, error %d", s, shown, again, at, e)
			}
		})
	}
	if n < 10000 {
		t.Error("texts that were read:", n)
	}
	for _, s := range []string{"", strings.Repeat("|", 255), strings.Repeat("a", 256), strings.Repeat("(a|", 255) + strings.Repeat(")", 255), strings.Repeat("(", 2000) + strings.Repeat(")", 2000)} {
		l, _, e := Read(s)
		shown := Show(l)
		if e != api.OK || shown == "" {
			t.Errorf("Read of %.20q: error %d, shown as %.20q", s, e, shown)
		}
		reads(t, shown, l, len(shown), api.OK)
	}
}

// A text of few bytes may be printed with more than Most; then it is too long to be read again.
func TestP805TooLong(t *testing.T) {
	s := strings.Repeat(`[^!-~\xa0-\xff]`, 256)
	l, at, e := Read(s)
	shown := Show(l)
	if len(l) != 511 || at != len(s) || e != api.OK || shown != strings.Repeat(`[\x00-\x20\x7f-\x9f]`, 256) {
		t.Errorf("Read of classes: %d steps, %d, error %d, shown as %.60q", len(l), at, e, shown)
	}
	reads(t, shown, nil, 0, api.ErrLong)
	for from := range 256 {
		part, _, _ := Read(s[:15*(from+1)])
		if shown := Show(part); len(shown) <= Most {
			reads(t, shown, part, len(shown), api.OK)
		}
	}
}

// Show changes neither the steps nor what is behind them.
func TestP801Arguments(t *testing.T) {
	whole := rx.Cat(rx.Text("ab"), rx.Star(rx.Alt(rx.Text("c"), rx.Empty())), rx.Text("d"))
	before := slices.Clone(whole)
	for n := range len(whole) + 1 {
		first := Show(whole[:n])
		if again := Show(whole[:n]); again != first || !slices.Equal(whole, before) {
			t.Errorf("Show of %d steps: %q, %q; what was shown is %v", n, first, again, whole)
		}
	}
}
