package fuse

import (
	"fmt"
	"math"
	"slices"
	"strings"
	"testing"

	"facsimile/api"
	"facsimile/rx"
	"facsimile/rxfact"
)

// hasSpots holds spots that a call answered against those that they must be.
func hasSpots(t *testing.T, got, want []int, call string, arguments ...any) {
	t.Helper()
	if !slices.Equal(got, want) {
		t.Errorf("%s of %.300s: %.300s, not %.300s", call, fmt.Sprint(arguments...), fmt.Sprint(got), fmt.Sprint(want))
	}
}

func TestP1203Examples(t *testing.T) {
	n := Fuse(tokens(t, "a+", "ab"))
	for _, x := range []struct {
		w     string
		at    []int
		token int
	}{
		{"", nil, -1}, {"a", []int{0, 1}, 0}, {"ab", []int{2}, 1}, {"b", nil, -1},
		{"aa", []int{0}, 0}, {"aab", nil, -1}, {"aba", nil, -1}, {"abb", nil, -1}, {strings.Repeat("a", 1000), []int{0}, 0},
	} {
		hasSpots(t, Run(n, x.w), x.at, "Run", x.w)
		if token := Token(n, x.at); token != x.token {
			t.Errorf("Token of %v: %d", x.at, token)
		}
	}
	hasSpots(t, Start(n, 'a'), []int{0, 1}, "Start", 'a')
	hasSpots(t, Start(n, 'b'), nil, "Start", 'b')
	hasSpots(t, Step(n, []int{0, 1}, 'a'), []int{0}, "Step", 'a')
	hasSpots(t, Step(n, []int{0, 1}, 'b'), []int{2}, "Step", 'b')
	hasSpots(t, Step(n, []int{2}, 'b'), nil, "Step", 'b')
}

// Nets of all kinds: their spots in any order, more than once, and numbers that are no spots.
func TestP1203Mixed(t *testing.T) {
	var r lcg
	led := 0
	for range 4000 {
		n := mixedNet(&r, r.below(9))
		if !Right(n) {
			t.Fatalf("%v is not Right", n)
		}
		at := mixedSpots(&r, len(n.Sets))
		for _, b := range []byte("abc\x00\x3f\x40\x7f\x80\xbf\xc0\xff") {
			hasSpots(t, Start(n, b), startOf(n, b), "Start", n, b)
			hasSpots(t, Step(n, at, b), stepOf(n, at, b), "Step", n, at, b)
			led += len(stepOf(n, at, b))
		}
		if token := Token(n, at); token != tokenOf(n, at) {
			t.Errorf("Token of %v and %v: %d", n, at, token)
		}
		w := make([]byte, r.below(7))
		for i := range w {
			w[i] = "aabc\xff"[r.below(5)]
		}
		hasSpots(t, Run(n, string(w)), runOf(n, string(w)), "Run", n, w)
	}
	if led < 20000 {
		t.Error("spots that Step led to:", led)
	}
}

// Each byte leads to the spots whose Sets contain it, and to no others.
func TestP1203Bytes(t *testing.T) {
	var n api.Net
	all := upTo(0, 255)
	for b := range 256 {
		n.Sets = append(n.Sets, setOf(string([]byte{byte(b)})))
		n.Of, n.Last, n.Follow, n.First = append(n.Of, 0), append(n.Last, true), append(n.Follow, all), all
	}
	for b := range 256 {
		hasSpots(t, Start(n, byte(b)), []int{b}, "Start", b)
		hasSpots(t, Step(n, []int{255 - b}, byte(b)), []int{b}, "Step", b)
		hasSpots(t, Run(n, string([]byte{byte(b)})), []int{b}, "Run", b)
		hasSpots(t, Run(n, string([]byte{7, byte(255 - b), byte(b)})), []int{b}, "Run", b)
	}
	none := Fuse(tokens(t, `[^\x00-\xff]`, `a[^\x00-\xff]`))
	for b := range 256 {
		hasSpots(t, Step(none, []int{0, 1, 2}, byte(b)), nil, "Step to no byte", b)
	}
}

// Numbers that are no spots are ignored, wherever they stand, and how many there are.
func TestP1203NoSpots(t *testing.T) {
	n := Fuse(tokens(t, "(a|b)+", "ab", "b"))
	others := []int{-1, -2, -5, -64, 5, 6, 64, 1 << 32, -1 << 32, math.MaxInt, math.MinInt}
	hasSpots(t, Step(n, others, 'b'), nil, "Step", others)
	if token := Token(n, others); token != -1 {
		t.Errorf("Token of %v: %d", others, token)
	}
	for p, token := range []int{0, 0, -1, 1, 2} {
		for i := range len(others) + 1 {
			at := slices.Insert(slices.Clone(others), i, p)
			hasSpots(t, Step(n, at, 'b'), stepOf(n, []int{p}, 'b'), "Step", at)
			if got := Token(n, at); got != token {
				t.Errorf("Token of %v: %d", at, got)
			}
		}
	}
	often := slices.Repeat(append(others, 4, 2, 3, 2), 20000)
	hasSpots(t, Step(n, often, 'b'), []int{3}, "Step of many numbers")
	if token := Token(n, often); token != 1 {
		t.Error("Token of many numbers:", token)
	}
}

// The smallest token of those that are Last, in whatever order spots, and tokens of spots, stand.
func TestP1203Token(t *testing.T) {
	n := api.Net{
		Sets:   make([]api.Set, 5),
		Of:     []int{3, math.MaxInt, 0, 2, 2},
		Last:   []bool{true, true, false, true, false},
		Follow: make([][]int, 5),
	}
	for _, x := range []struct {
		at    []int
		token int
	}{
		{nil, -1}, {[]int{0}, 3}, {[]int{1}, math.MaxInt}, {[]int{2}, -1}, {[]int{3}, 2}, {[]int{4}, -1}, {[]int{2, 4}, -1},
		{[]int{0, 1}, 3}, {[]int{1, 0}, 3}, {[]int{0, 3}, 2}, {[]int{3, 0}, 2}, {[]int{0, 1, 2, 3, 4}, 2}, {[]int{4, 3, 2, 1, 0}, 2},
		{[]int{2, 1}, math.MaxInt}, {[]int{0, 4}, 3}, {[]int{0, 0, 0}, 3}, {[]int{-1, 5, 4, 1}, math.MaxInt},
	} {
		if token := Token(n, x.at); token != x.token {
			t.Errorf("Token of %v: %d, not %d", x.at, token, x.token)
		}
	}
	n.Of[2], n.Last[2] = 0, true
	if token := Token(n, []int{3, 2, 0}); token != 0 {
		t.Error("Token 0 is not the smallest:", token)
	}
}

// For nets that are not Right there is nothing, and -1.
func TestP1203NotRight(t *testing.T) {
	for name, n := range notNets() {
		for _, at := range [][]int{nil, {0}, {0, 1, 2}, {3, -1}, {math.MinInt, math.MaxInt}} {
			for _, b := range []byte("abc") {
				hasSpots(t, Start(n, b), nil, "Start", name)
				hasSpots(t, Step(n, at, b), nil, "Step", name)
			}
			if token := Token(n, at); token != -1 {
				t.Errorf("Token of %s: %d", name, token)
			}
		}
		for _, w := range []string{"", "a", "ab", "abc", "abbc"} {
			hasSpots(t, Run(n, w), nil, "Run", name)
		}
	}
}

// A long word through the most spots that follow each other.
func TestP1203Long(t *testing.T) {
	cloud := rx.Plus(rx.Alt(slices.Repeat([][]api.Rx{rx.Text("a")}, 255)...))
	n := Fuse(append(tokens(t, "a*b"), api.Token{Rex: cloud}))
	w := strings.Repeat("a", 3000)
	hasSpots(t, Run(n, w), append([]int{0}, upTo(2, 256)...), "Run of a long word")
	hasSpots(t, Run(n, w+"b"), []int{1}, "Run of a long word")
	hasSpots(t, Run(n, w+"b"+w), nil, "Run of a long word")
	chain := Fuse(tokens(t, strings.Repeat("a", 256), "a*"))
	for _, k := range []int{1, 2, 255, 256, 257, 3000} {
		want := []int{k - 1, 256}
		if k > 256 {
			want = want[1:]
		}
		hasSpots(t, Run(chain, w[:k]), want, "Run of a chain", k)
	}
	hasSpots(t, Run(chain, strings.Repeat("a", 1<<16)), []int{256}, "Run of a very long word")
}

// texts are the texts of small expressions.
func texts() []string {
	return []string{
		"a", "b", "ab", "ba", "a|b", "a+", "b*", "a?", "", "(ab)+", "(a|b)*", "(a|ab)(b|)", "a*b", "ab*", "[ab]b", "b[^a]", `a[^\x00-\xff]`,
		`[^\x00-\xff]*a`, "(a*b*)*", "(aa)*", "(a|b)*a(a|b)", "()|ab", "a?b?a?", "(ab|ba)+", "(a?b?)+", `[\x00-\xff]`,
	}
}

// holdMatching holds the spots that a word leads to, and their Token, against what the expressions match.
func holdMatching(t *testing.T, l []api.Token, n api.Net, w string) (matched int) {
	t.Helper()
	at, first := Run(n, w), -1
	for token := range l {
		last := func(p int) bool { return n.Of[p] == token && n.Last[p] }
		says := w != "" && rxfact.Says(l[token].Rex, w)
		if slices.ContainsFunc(at, last) != says {
			t.Errorf("%q and token %d of %v: %v", w, token, l, !says)
		}
		if says {
			matched++
		}
		if says && first == -1 {
			first = token
		}
	}
	if token := Token(n, at); token != first {
		t.Errorf("Token of %q and %v: %d, not %d", w, l, token, first)
	}
	return matched
}

func TestP1204Matching(t *testing.T) {
	matched := 0
	for _, a := range texts() {
		for _, b := range texts() {
			for _, l := range [][]api.Token{tokens(t, a, b), tokens(t, a, "(a|b)+", b)} {
				n := Fuse(l)
				eachText("ab", 4, func(w string) { matched += holdMatching(t, l, n, w) })
			}
		}
	}
	if matched < 30000 {
		t.Error("words that a token matches:", matched)
	}
}

func TestP1204Mixed(t *testing.T) {
	var r lcg
	matched := 0
	for range 300 {
		l := make([]api.Token, 1+r.below(6))
		for i := range l {
			if l[i].Rex = mixed(&r, 1+r.below(25)); r.below(8) == 0 {
				l[i] = wrong()[r.below(len(wrong()))]
			}
		}
		n := Fuse(l)
		for range 40 {
			w := make([]byte, 1+r.below(7))
			for i := range w {
				w[i] = "abc"[r.below(3)]
			}
			matched += holdMatching(t, l, n, string(w))
		}
	}
	if matched < 2000 {
		t.Error("words that a token matches:", matched)
	}
}

// holdConcatenation holds Run of a word against Run of each beginning, but the empty one, and Steps for the rest.
func holdConcatenation(t *testing.T, n api.Net, w string) {
	t.Helper()
	whole := Run(n, w)
	for k := 1; k <= len(w); k++ {
		at := Run(n, w[:k])
		for i := k; i < len(w); i++ {
			at = Step(n, at, w[i])
		}
		hasSpots(t, at, whole, "Run and Steps", n, w, k)
	}
}

func TestP1205Concatenation(t *testing.T) {
	for _, a := range texts() {
		for _, b := range texts() {
			n := Fuse(tokens(t, a, b))
			eachText("ab", 4, func(w string) { holdConcatenation(t, n, w) })
		}
	}
	var r lcg
	for range 500 {
		n := mixedNet(&r, 1+r.below(12))
		w := make([]byte, 9)
		for i := range w {
			w[i] = "aabc\xff"[r.below(5)]
		}
		holdConcatenation(t, n, string(w))
	}
}
