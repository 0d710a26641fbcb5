package fuse

import (
	"fmt"
	"math"
	"slices"
	"strings"
	"testing"

	"facsimile/api"
	"facsimile/rx"
	"facsimile/rxtext"
	"facsimile/spot"
)

// hasNet holds a net against the one that it must be.
func hasNet(t *testing.T, name string, got, want api.Net) {
	t.Helper()
	if !same(got, want) {
		t.Errorf("Fuse of %.60s: %.600s, not %.600s", name, fmt.Sprint(got), fmt.Sprint(want))
	}
	if !Right(got) {
		t.Errorf("Fuse of %.60s is not Right: %.600s", name, fmt.Sprint(got))
	}
}

// Arguments are not changed, nor what is behind their ends.
func TestP1201Arguments(t *testing.T) {
	l := tokens(t, "a+|b", "(ab)*c", "", "c")
	kept, rexes := slices.Clone(l), make([][]api.Rx, len(l))
	for i := range l {
		rexes[i] = slices.Clone(l[i].Rex[:cap(l[i].Rex)])
	}
	Fuse(l[:2])
	for i := range l {
		if l[i].Name != kept[i].Name || !slices.Equal(l[i].Rex[:cap(l[i].Rex)], rexes[i]) {
			t.Errorf("token %d was changed: %v", i, l[i])
		}
	}
	var r lcg
	for range 300 {
		whole := mixedNet(&r, 1+r.below(8))
		n := whole
		n.First = n.First[:len(n.First)/2]
		n.Follow = slices.Clone(n.Follow)
		for i := range n.Follow {
			n.Follow[i] = n.Follow[i][:len(n.Follow[i])/2]
		}
		all := append(mixedSpots(&r, len(n.Sets)), 0, 99, 98)
		at := all[:len(all)-2]
		keptNet, keptAll := clone(whole), slices.Clone(all)
		Right(n)
		Token(n, at)
		for _, result := range [][]int{Start(n, 'a'), Step(n, at, 'a'), Run(n, "a"), Run(n, "aab")} {
			for i := range result[:cap(result)] {
				result[:cap(result)][i] = -7
			}
		}
		if !same(whole, keptNet) || !slices.Equal(all, keptAll) {
			t.Fatalf("arguments were changed: %v, %v", whole, all)
		}
	}
}

// No two lists of a net share memory, nor do the nets of two calls, nor the tokens and their net.
func TestP1201Memory(t *testing.T) {
	l := tokens(t, "(a|b)*c", "a?b?c?", "()", "abc|abd", "a*")
	want := Fuse(l)
	lists := 2 + len(want.Follow)
	list := func(n api.Net, i int) []int {
		return append([][]int{n.First, n.Of}, n.Follow...)[i]
	}
	for i := range lists {
		n, other := Fuse(l), Fuse(l)
		for k := range cap(list(n, i)) {
			list(n, i)[:cap(list(n, i))][k] = -7
		}
		for j := range lists {
			if j != i && !slices.Equal(list(n, j), list(want, j)) {
				t.Errorf("the lists %d and %d share memory", i, j)
			}
		}
		if !same(other, want) || !same(Fuse(l), want) {
			t.Errorf("the list %d is shared with other results", i)
		}
	}
	n, other := Fuse(l), Fuse(l)
	for i := range n.Sets {
		n.Sets[i], n.Last[i], n.Follow[i] = setOf("z"), !n.Last[i], []int{99}
	}
	if !same(other, want) || !same(Fuse(l), want) {
		t.Error("Sets, Last or Follow are shared with other results")
	}
	for i := range l {
		for j := range l[i].Rex {
			l[i].Rex[j] = api.Rx{Kind: 99}
		}
	}
	if !same(other, want) {
		t.Error("a net was changed with its tokens:", other)
	}
}

// The same arguments give the same results, whatever was called before; nil and empty lists are the same.
func TestP1201Pure(t *testing.T) {
	var r lcg
	for range 50 {
		l := []api.Token{{Rex: mixed(&r, 5)}, {Rex: mixed(&r, 9)}}
		n := Fuse(l)
		once := [][]int{Start(n, 'a'), Step(n, n.First, 'b'), Run(n, "ab"), {Token(n, n.First)}}
		other := Fuse([]api.Token{{Rex: mixed(&r, 7)}})
		Run(other, "abab")
		again := [][]int{Start(n, 'a'), Step(n, n.First, 'b'), Run(n, "ab"), {Token(n, n.First)}}
		if !same(n, Fuse(l)) || !slices.EqualFunc(once, again, slices.Equal) {
			t.Errorf("calls of %v answer otherwise again", l)
		}
	}
	empty := api.Net{Sets: []api.Set{}, Of: []int{}, Last: []bool{}, Follow: [][]int{}, First: []int{}}
	for _, n := range []api.Net{{}, empty, Fuse(nil), Fuse([]api.Token{})} {
		if !same(n, api.Net{}) || !Right(n) {
			t.Errorf("a net of nothing: %v", n)
		}
		for _, at := range [][]int{nil, {}, {0}, {-1, 0, 1}} {
			if Start(n, 'a') != nil || Step(n, at, 'a') != nil || Run(n, "a") != nil || Token(n, at) != -1 {
				t.Errorf("a net of nothing leads somewhere from %v", at)
			}
		}
	}
	one := Fuse(tokens(t, "a"))
	one.Follow[0] = []int{}
	if !Right(one) || Step(one, nil, 'a') != nil || Step(one, []int{}, 'a') != nil || Step(one, []int{0}, 'a') != nil || Token(one, nil) != -1 || Token(one, []int{}) != -1 {
		t.Error("no spots lead somewhere")
	}
}

func TestP1202Example(t *testing.T) {
	hasNet(t, "a+ and ab", Fuse(tokens(t, "a+", "ab")), api.Net{
		Sets:   []api.Set{setOf("a"), setOf("a"), setOf("b")},
		Of:     []int{0, 1, 1},
		Last:   []bool{true, false, true},
		Follow: [][]int{{0}, {2}, nil},
		First:  []int{0, 1},
	})
}

func TestP1202Fuse(t *testing.T) {
	a, b, c := setOf("a"), setOf("b"), setOf("c")
	for _, x := range []struct {
		texts []string
		n     api.Net
	}{
		{nil, api.Net{}},
		{[]string{""}, api.Net{}},
		{[]string{"", "()*", "()|()"}, api.Net{}},
		{[]string{"a"}, netOf([]api.Set{a}, []int{0}, []bool{true}, [][]int{nil}, []int{0})},
		{[]string{"a", "a"}, netOf([]api.Set{a, a}, []int{0, 1}, []bool{true, true}, [][]int{nil, nil}, []int{0, 1})},
		{[]string{"ab", "", "c"}, netOf([]api.Set{a, b, c}, []int{0, 0, 2}, []bool{false, true, true}, [][]int{{1}, nil, nil}, []int{0, 2})},
		{[]string{"", "a", "()", "b"}, netOf([]api.Set{a, b}, []int{1, 3}, []bool{true, true}, [][]int{nil, nil}, []int{0, 1})},
		// That an expression matches the empty word is not to be seen.
		{[]string{"a*", "b+"}, netOf([]api.Set{a, b}, []int{0, 1}, []bool{true, true}, [][]int{{0}, {1}}, []int{0, 1})},
		{[]string{"(ab)*", "(a|b)+c"}, netOf([]api.Set{a, b, a, b, c}, []int{0, 0, 1, 1, 1}, []bool{false, true, false, false, true}, [][]int{{1}, {0}, {2, 3, 4}, {2, 3, 4}, nil}, []int{0, 2, 3})},
		{[]string{"a?b?", "c", "a?b?"}, netOf([]api.Set{a, b, c, a, b}, []int{0, 0, 1, 2, 2}, []bool{true, true, true, true, true}, [][]int{{1}, nil, nil, {4}, nil}, []int{0, 1, 2, 3, 4})},
		{[]string{`a[^\x00-\xff]`, `[\x00-\xff]`}, netOf([]api.Set{a, {}, {math.MaxUint64, math.MaxUint64, math.MaxUint64, math.MaxUint64}}, []int{0, 0, 1}, []bool{false, true, true}, [][]int{{1}, nil, nil}, []int{0, 2})},
	} {
		hasNet(t, strings.Join(x.texts, " and "), Fuse(tokens(t, x.texts...)), x.n)
	}
}

// Names and Classes make no difference.
func TestP1202Names(t *testing.T) {
	l := tokens(t, "a+", "ab")
	want := Fuse(l)
	for _, name := range []string{"x", "x y", strings.Repeat("n", 100)} {
		for _, class := range []api.Class{api.Blank, api.Note, api.Line, -1, 99} {
			l[0].Name, l[0].Class, l[1].Class = name, class, class
			hasNet(t, name, Fuse(l), want)
		}
	}
}

// Tokens whose steps are no expression have no spots, but their numbers.
func TestP1202NoExpression(t *testing.T) {
	hasNet(t, "wrong tokens alone", Fuse(wrong()), api.Net{})
	for _, token := range wrong() {
		if rx.Check(token.Rex) == api.OK {
			t.Errorf("%s is an expression", token.Name)
		}
		l := append(tokens(t, "a"), token)
		l = append(l, tokens(t, "bc")...)
		hasNet(t, token.Name, Fuse(l), api.Net{
			Sets:   []api.Set{setOf("a"), setOf("b"), setOf("c")},
			Of:     []int{0, 2, 2},
			Last:   []bool{true, false, true},
			Follow: [][]int{nil, {2}, nil},
			First:  []int{0, 1},
		})
	}
}

// fused is what P1202 says of Fuse, spot by spot.
func fused(l []api.Token) api.Net {
	var n api.Net
	for token, x := range l {
		from := len(n.Of)
		shift := func(spots []int) []int {
			var all []int
			for _, p := range spots {
				all = append(all, from+p)
			}
			return all
		}
		n.First = slices.Concat(n.First, shift(spot.First(x.Rex)))
		for i, s := range spot.Sets(x.Rex) {
			n.Sets = append(n.Sets, s)
			n.Of = append(n.Of, token)
			n.Last = append(n.Last, slices.Contains(spot.Last(x.Rex), i))
			n.Follow = append(n.Follow, shift(spot.Follow(x.Rex, i)))
		}
	}
	return n
}

func TestP1202Mixed(t *testing.T) {
	var r lcg
	most := 0
	for range 400 {
		l := make([]api.Token, r.below(9))
		for i := range l {
			if l[i].Rex = mixed(&r, 1+r.below(30)); r.below(8) == 0 {
				l[i] = wrong()[r.below(len(wrong()))]
			}
		}
		n := Fuse(l)
		hasNet(t, "mixed tokens", n, fused(l))
		most = max(most, len(n.Sets))
	}
	if most < 80 {
		t.Error("spots:", most)
	}
}

// Tokens of as many spots as there may be, and one too long between them.
func TestP1202ManySpots(t *testing.T) {
	each := func(s string) [][]api.Rx { return slices.Repeat([][]api.Rx{rx.Text(s)}, 256) }
	chain, cloud, row := rx.Plus(rx.Cat(each("a")...)), rx.Star(rx.Alt(each("b")...)), rx.Alt(each("c")...)
	n := Fuse([]api.Token{{Rex: chain}, {Rex: cloud}, {Rex: rx.Opt(cloud)}, {Rex: row}, {Rex: chain}})
	want := netOf(nil, nil, nil, nil, slices.Concat([]int{0}, upTo(256, 767), []int{768}))
	if rx.Check(chain) != api.OK || rx.Check(cloud) != api.OK || rx.Check(row) != api.OK || rx.Check(rx.Opt(cloud)) != api.ErrLong {
		t.Fatal("the expressions are not as long as they must be")
	}
	for p := range 1024 {
		token, from := []int{0, 1, 3, 4}[p/256], p/256*256
		want.Sets = append(want.Sets, setOf([]string{"a", "b", "c", "a"}[p/256]))
		want.Of = append(want.Of, token)
		want.Last = append(want.Last, token == 1 || token == 3 || p%256 == 255)
		want.Follow = append(want.Follow, map[int][]int{0: {from + (p+1)%256}, 1: upTo(from, from+255), 4: {from + (p+1)%256}}[token])
	}
	hasNet(t, "many spots", n, want)
}

// As many tokens as there may be, and more.
func TestP1202ManyTokens(t *testing.T) {
	for _, count := range []int{1, 21, 22, 500} {
		var want api.Net
		for i := range count {
			want.Sets = append(want.Sets, setOf("a"), setOf("b"))
			want.Of = append(want.Of, 3*i, 3*i+2)
			want.Last = append(want.Last, true, true)
			want.Follow = append(want.Follow, nil, []int{2*i + 1})
			want.First = append(want.First, 2*i, 2*i+1)
		}
		hasNet(t, "many tokens", Fuse(slices.Repeat(tokens(t, "a", "", "b+"), count)), want)
	}
}

// notNets are nets of three spots that are not Right, by what is wrong with them.
func notNets() map[string]api.Net {
	rex, _, _ := rxtext.Read("ab+c")
	base := func() api.Net { return Fuse([]api.Token{{Rex: rex}}) }
	l := map[string]api.Net{}
	with := func(name string, change func(n *api.Net)) {
		n := base()
		change(&n)
		l[name] = n
	}
	with("Sets longer", func(n *api.Net) { n.Sets = append(n.Sets, api.Set{}) })
	with("Sets shorter", func(n *api.Net) { n.Sets, n.Follow[1] = n.Sets[:2], nil })
	with("no Sets", func(n *api.Net) { n.Sets, n.First, n.Follow = nil, nil, make([][]int, 3) })
	with("Of longer", func(n *api.Net) { n.Of = append(n.Of, 0) })
	with("Of shorter", func(n *api.Net) { n.Of = n.Of[:2] })
	with("no Of", func(n *api.Net) { n.Of = nil })
	with("Last longer", func(n *api.Net) { n.Last = append(n.Last, true) })
	with("Last shorter", func(n *api.Net) { n.Last = n.Last[:2] })
	with("no Last", func(n *api.Net) { n.Last = nil })
	with("Follow longer", func(n *api.Net) { n.Follow = append(n.Follow, nil) })
	with("Follow shorter", func(n *api.Net) { n.Follow = n.Follow[:2] })
	with("no Follow", func(n *api.Net) { n.Follow = nil })
	with("Of and Last longer", func(n *api.Net) { n.Of, n.Last = append(n.Of, 0), append(n.Last, true) })
	with("only First", func(n *api.Net) { *n = api.Net{First: []int{0}} })
	for _, wrong := range [][]int{{-1}, {math.MinInt}, {3}, {4}, {math.MaxInt}, {0, 0}, {1, 0}, {0, 2, 1}, {0, 1, 2, 3}, {0, 1, 2, 2}, {-1, 0, 1, 2}, {2, 3}, {-1, 0}, {0, 4}, {3, 0}, {0, -1}, {0, 3, 1}, {1, -1, 2}} {
		with(fmt.Sprint("First ", wrong), func(n *api.Net) { n.First = wrong })
		for i := range 3 {
			with(fmt.Sprint("Follow ", i, wrong), func(n *api.Net) { n.Follow[i] = wrong })
		}
	}
	for _, wrong := range []int{-1, -2, math.MinInt} {
		for i := range 3 {
			with(fmt.Sprint("Of ", i, wrong), func(n *api.Net) { n.Of[i] = wrong })
		}
	}
	return l
}

func TestP1202Right(t *testing.T) {
	for name, n := range notNets() {
		if isNet(n) || Right(n) {
			t.Errorf("%s is Right: %v", name, n)
		}
	}
	a := setOf("a")
	for name, n := range map[string]api.Net{
		"nothing":      {},
		"no First":     netOf([]api.Set{a}, []int{0}, []bool{false}, [][]int{{0}}, nil),
		"a great Of":   netOf([]api.Set{a, {}}, []int{math.MaxInt, 0}, []bool{false, true}, [][]int{{0, 1}, nil}, []int{1}),
		"all the same": netOf([]api.Set{a, a, a}, []int{7, 7, 7}, []bool{true, true, true}, [][]int{{0, 1, 2}, {0, 2}, {2}}, []int{0, 1, 2}),
	} {
		if !isNet(n) || !Right(n) {
			t.Errorf("%s is not Right: %v", name, n)
		}
	}
}

// All nets of up to two spots, right and wrong.
func TestP1202RightSmall(t *testing.T) {
	lists := [][]int{nil}
	for from := 0; len(lists[from]) < 3; from++ {
		for _, p := range []int{-1, 0, 1, 2} {
			lists = append(lists, append(slices.Clone(lists[from]), p))
		}
	}
	right := 0
	see := func(n api.Net) {
		if want := isNet(n); Right(n) != want {
			t.Errorf("Right of %v: %v", n, !want)
		}
		if Right(n) {
			right++
		}
	}
	for _, first := range lists {
		see(api.Net{First: first})
		for _, follow := range lists {
			see(netOf(make([]api.Set, 1), []int{0}, []bool{true}, [][]int{follow}, first))
			for _, other := range lists[:21] {
				see(netOf(make([]api.Set, 2), []int{1, 0}, []bool{true, false}, [][]int{follow, other}, first))
			}
		}
	}
	for lengths := range 4 * 4 * 4 * 4 {
		a, b, c, d := lengths%4, lengths/4%4, lengths/16%4, lengths/64
		see(netOf(make([]api.Set, a), make([]int, b), make([]bool, c), make([][]int, d), nil))
	}
	if right != 1+2*2+4*4*4+4 {
		t.Error("nets that are Right:", right)
	}
}
