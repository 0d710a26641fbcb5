package place

import (
	"math"
	"slices"
	"strings"
	"testing"

	"facsimile/api"
)

// texts are all texts of up to 6 bytes of three, and some longer ones.
func texts() []string {
	l := []string{""}
	for from := 0; len(l[from]) < 6; from++ {
		for _, c := range []string{"a", "\n", "\r"} {
			l = append(l, l[from]+c)
		}
	}
	return append(l,
		"ab\nc",
		"one\ntwo\n\nfour",
		"one\r\ntwo\r\n",
		"h\u00e9\n\u2028\u2029\u0085\v\f\nx",
		"\x00\xff\n\xfe\x80",
		"\n\n\n\n\n\n\n\n",
		strings.Repeat("long", 50)+"\n"+strings.Repeat("\nlonger", 20),
	)
}

// walked is the text read byte by byte: the line and column of each index and of the end, and each line without its byte 10.
type walked struct {
	spots []api.Spot
	lines []string
}

func walk(s string) walked {
	w := walked{lines: []string{""}}
	for i := range len(s) {
		last := len(w.lines) - 1
		w.spots = append(w.spots, api.Spot{Line: last + 1, Col: len(w.lines[last]) + 1})
		if s[i] == 10 {
			w.lines = append(w.lines, "")
		} else {
			w.lines[last] += s[i : i+1]
		}
	}
	last := len(w.lines) - 1
	w.spots = append(w.spots, api.Spot{Line: last + 1, Col: len(w.lines[last]) + 1})
	return w
}

// farNumbers are numbers that are no place of any text here.
func farNumbers() []int {
	return []int{math.MinInt, math.MinInt + 1, -1 << 40, -1 << 32, 1 << 20, 1 << 32, 1<<32 + 1, 1 << 40, math.MaxInt - 2, math.MaxInt - 1, math.MaxInt}
}

func span(from, to int) api.Span {
	return api.Span{From: from, To: to}
}

// smallSpans are all spans with ends from lo to hi, in order or not.
func smallSpans(lo, hi int) []api.Span {
	var l []api.Span
	for from := lo; from <= hi; from++ {
		for to := lo; to <= hi; to++ {
			l = append(l, span(from, to))
		}
	}
	return l
}

// wideSpans are all spans with ends at and around 0, Most and the ends of the ints.
func wideSpans() []api.Span {
	ends := []int{math.MinInt, math.MinInt + 1, -Most, -1, 0, 1, Most - 1, Most, Most + 1, math.MaxInt - 1, math.MaxInt}
	var l []api.Span
	for _, from := range ends {
		for _, to := range ends {
			l = append(l, span(from, to))
		}
	}
	return l
}

func TestP301LongText(t *testing.T) {
	long := strings.Repeat("0123456\n", 1<<17)
	if n := Lines(long); n != 1<<17+1 {
		t.Error("Lines:", n)
	}
	if p, ok := At(long, len(long)); p != (api.Spot{Line: 1<<17 + 1, Col: 1}) || !ok {
		t.Error("At:", p, ok)
	}
	if at, ok := Of(long, api.Spot{Line: 1 << 17, Col: 8}); at != len(long)-1 || !ok {
		t.Error("Of:", at, ok)
	}
	if line, ok := Line(long, 1<<17); line != "0123456" || !ok {
		t.Error("Line:", line, ok)
	}
	if Most != 1<<40 {
		t.Error("Most:", Most)
	}
}

func TestP301SameAgain(t *testing.T) {
	for _, s := range texts() {
		for at := range len(s) + 1 {
			p, _ := At(s, at)
			again, _ := At(s, at)
			index, _ := Of(s, p)
			other, _ := Of(s, p)
			if p != again || index != other {
				t.Errorf("results differ from call to call: %q, %d", s, at)
			}
		}
	}
}

func TestP302Examples(t *testing.T) {
	for _, x := range []struct {
		s  string
		at int
		p  api.Spot
		ok bool
	}{
		{"ab\nc", 3, api.Spot{Line: 2, Col: 1}, true},
		{"ab\nc", 2, api.Spot{Line: 1, Col: 3}, true},
		{"ab\nc", 4, api.Spot{Line: 2, Col: 2}, true},
		{"ab\nc", 5, api.Spot{}, false},
		{"ab\nc", -1, api.Spot{}, false},
		{"", 0, api.Spot{Line: 1, Col: 1}, true},
		{"", 1, api.Spot{}, false},
		{"\n", 0, api.Spot{Line: 1, Col: 1}, true},
		{"\n", 1, api.Spot{Line: 2, Col: 1}, true},
		{"\u00e9x", 2, api.Spot{Line: 1, Col: 3}, true},
		{"a\rb", 2, api.Spot{Line: 1, Col: 3}, true},
	} {
		if p, ok := At(x.s, x.at); p != x.p || ok != x.ok {
			t.Errorf("At(%q, %d) = %v, %t", x.s, x.at, p, ok)
		}
	}
	for s, n := range map[string]int{"": 1, "a": 1, "\n": 2, "a\n": 2, "a\nb": 2, "\n\n": 3, "a\r\nb\r": 2} {
		if Lines(s) != n {
			t.Errorf("Lines(%q) = %d", s, Lines(s))
		}
	}
}

func TestP302LinesAndAt(t *testing.T) {
	for _, s := range texts() {
		w := walk(s)
		if n := Lines(s); n != len(w.lines) {
			t.Errorf("Lines(%q) = %d", s, n)
		}
		for at, want := range w.spots {
			if p, ok := At(s, at); p != want || !ok {
				t.Errorf("At(%q, %d) = %v, %t", s, at, p, ok)
			}
		}
		for _, at := range append(farNumbers(), -2, -1, len(s)+1, len(s)+2) {
			if p, ok := At(s, at); p != (api.Spot{}) || ok {
				t.Errorf("At(%q, %d) = %v, %t", s, at, p, ok)
			}
		}
	}
}

func TestP302Of(t *testing.T) {
	for _, s := range texts() {
		w := walk(s)
		lines, cols := farNumbers(), farNumbers()
		for n := -2; n <= len(w.lines)+2; n++ {
			lines = append(lines, n)
		}
		for n := -2; n <= len(s)+3; n++ {
			cols = append(cols, n)
		}
		for _, line := range lines {
			for _, col := range cols {
				p := api.Spot{Line: line, Col: col}
				want := slices.Index(w.spots, p)
				if at, ok := Of(s, p); at != max(want, 0) || ok != (want >= 0) {
					t.Errorf("Of(%q, %v) = %d, %t", s, p, at, ok)
				}
			}
		}
	}
}

func TestP302Line(t *testing.T) {
	for _, s := range texts() {
		w := walk(s)
		for i, want := range w.lines {
			if line, ok := Line(s, i+1); line != want || !ok {
				t.Errorf("Line(%q, %d) = %q, %t", s, i+1, line, ok)
			}
		}
		for _, n := range append(farNumbers(), -2, -1, 0, len(w.lines)+1, len(w.lines)+2) {
			if line, ok := Line(s, n); line != "" || ok {
				t.Errorf("Line(%q, %d) = %q, %t", s, n, line, ok)
			}
		}
	}
}

func TestP303RightAndLen(t *testing.T) {
	for _, a := range append(smallSpans(-3, 5), wideSpans()...) {
		for _, n := range []int{math.MinInt, -Most, -3, -1, 0, 1, 2, 4, 5, 6, Most - 1, Most, Most + 1, math.MaxInt - 1, math.MaxInt} {
			want := a.From >= 0 && a.To >= a.From && a.To <= n
			if Right(a, n) != want {
				t.Error("Right:", a, n, !want)
			}
		}
		want := 0
		if a.From >= 0 && a.To >= a.From {
			want = a.To - a.From
		}
		if n := Len(a); n != want {
			t.Error("Len:", a, n)
		}
	}
}

func TestP303Examples(t *testing.T) {
	for a, n := range map[api.Span]int{
		span(0, 0):                         0,
		span(3, 7):                         4,
		span(7, 3):                         0,
		span(-1, 3):                        0,
		span(-3, -1):                       0,
		span(0, math.MaxInt):               math.MaxInt,
		span(math.MinInt, math.MaxInt):     0,
		span(math.MaxInt, math.MinInt):     0,
		span(math.MaxInt-1, math.MaxInt):   1,
		span(math.MinInt, math.MinInt+100): 0,
	} {
		if Len(a) != n {
			t.Error("Len:", a, Len(a))
		}
	}
	if !Right(span(0, 0), 0) || !Right(span(2, 5), 5) || Right(span(2, 5), 4) || Right(span(3, 2), 9) || Right(span(-1, 2), 9) || Right(span(0, 0), -1) || Right(span(-2, -2), -1) {
		t.Error("Right")
	}
	if Meets(span(0, 3), span(3, 5)) || !Meets(span(0, 4), span(3, 5)) || Meets(span(2, 2), span(0, 5)) || !Meets(span(-5, -3), span(-4, 9)) || Meets(span(4, 1), span(0, 9)) {
		t.Error("Meets")
	}
	if Join(span(3, 5), span(9, 4)) != span(3, 5) || Join(span(-2, 1), span(4, 9)) != span(-2, 9) || Join(span(2, 2), span(2, 2)) != span(2, 2) {
		t.Error("Join")
	}
}

func TestP303MeetsSmall(t *testing.T) {
	for _, a := range smallSpans(-2, 4) {
		for _, b := range smallSpans(-2, 4) {
			want := false
			for n := -3; n <= 5; n++ {
				want = want || n >= a.From && n >= b.From && n < a.To && n < b.To
			}
			if Meets(a, b) != want || Meets(b, a) != want {
				t.Error("Meets:", a, b, !want)
			}
		}
	}
}

func TestP303Wide(t *testing.T) {
	for _, a := range wideSpans() {
		for _, b := range wideSpans() {
			// If any number is in both spans, the greater From is.
			n := a.From
			if b.From > n {
				n = b.From
			}
			if want := n < a.To && n < b.To; Meets(a, b) != want {
				t.Error("Meets:", a, b, !want)
			}
			ends := []int{a.From, b.From, a.To, b.To}
			slices.Sort(ends[:2])
			slices.Sort(ends[2:])
			if j := Join(a, b); j != span(ends[0], ends[3]) {
				t.Error("Join:", a, b, j)
			}
		}
	}
}

// wantMove answers what Move must for small numbers: where the first byte of a comes to stand in a text that is changed.
func wantMove(a api.Span, at, cut, put int) (api.Span, bool) {
	if a.From < 0 || a.To < a.From || min(at, cut, put) < 0 {
		return api.Span{}, false
	}
	if a.To > at && a.From < at+cut {
		return api.Span{}, false
	}
	var text []int
	for i := range 32 {
		text = append(text, i)
	}
	text = slices.Concat(text[:at], slices.Repeat([]int{-1}, put), text[at+cut:])
	first := slices.Index(text, a.From)
	if a.From == a.To && a.From <= at {
		// Without a byte of its own it stays ahead of the bytes that are put where it stands.
		first = a.From
	}
	return span(first, first+a.To-a.From), true
}

func TestP304Small(t *testing.T) {
	for _, a := range smallSpans(-1, 7) {
		for at := -1; at <= 8; at++ {
			for cut := -1; cut <= 8; cut++ {
				for put := -1; put <= 4; put++ {
					want, wantOk := wantMove(a, at, cut, put)
					if b, ok := Move(a, at, cut, put); b != want || ok != wantOk {
						t.Error("Move:", a, at, cut, put, b, ok)
					}
				}
			}
		}
	}
}

// move is a call of Move and what it must answer.
type move struct {
	a            api.Span
	at, cut, put int
	want         api.Span
	ok           bool
}

func (x move) check(t *testing.T) {
	if b, ok := Move(x.a, x.at, x.cut, x.put); b != x.want || ok != x.ok {
		t.Error("Move:", x.a, x.at, x.cut, x.put, b, ok)
	}
}

func TestP304Examples(t *testing.T) {
	for _, x := range []move{
		{span(5, 7), 1, 2, 4, span(7, 9), true},
		{span(5, 7), 7, 2, 4, span(5, 7), true},
		{span(5, 7), 6, 2, 4, api.Span{}, false},
		{span(5, 7), 3, 2, 0, span(3, 5), true},
		{span(5, 7), 3, 3, 0, api.Span{}, false},
		{span(5, 7), 5, 0, 4, span(9, 11), true},
		{span(5, 7), 6, 0, 0, api.Span{}, false},
		{span(5, 7), 6, 0, 4, api.Span{}, false},
		{span(5, 5), 5, 0, 4, span(5, 5), true},
		{span(5, 5), 4, 1, 4, span(8, 8), true},
		{span(5, 5), 4, 2, 4, api.Span{}, false},
		{span(0, 0), 0, 0, 0, span(0, 0), true},
		{span(7, 5), 1, 2, 4, api.Span{}, false},
		{span(7, 5), 9, 2, 4, api.Span{}, false},
		{span(-1, 5), 9, 2, 4, api.Span{}, false},
		{span(5, 7), -1, 2, 4, api.Span{}, false},
		{span(5, 7), 1, -2, 4, api.Span{}, false},
		{span(5, 7), 9, -1, 4, api.Span{}, false},
		{span(5, 7), 1, 2, -1, api.Span{}, false},
		{span(5, 7), 9, 2, -1, api.Span{}, false},
	} {
		x.check(t)
	}
}

func TestP304Limits(t *testing.T) {
	for _, x := range []move{
		{span(0, Most), Most, Most, Most, span(0, Most), true},
		{span(Most, Most), 0, Most, 0, span(0, 0), true},
		{span(Most-1, Most), 0, 0, Most, span(2*Most-1, 2*Most), true},
		{span(Most-1, Most), 0, Most - 1, Most, span(Most, Most+1), true},
		{span(0, Most+1), Most, 0, 0, api.Span{}, false},
		{span(Most+1, Most+1), 0, 0, 0, api.Span{}, false},
		{span(1, 2), Most + 1, 0, 0, api.Span{}, false},
		{span(1, 2), Most, Most + 1, 0, api.Span{}, false},
		{span(1, 2), Most, 0, Most + 1, api.Span{}, false},
		{span(1, 2), 0, 1, Most + 1, api.Span{}, false},
		{span(1, 2), math.MaxInt, 0, 0, api.Span{}, false},
		{span(1, 2), 1, math.MaxInt, 0, api.Span{}, false},
		{span(1, 2), 0, 1, math.MaxInt, api.Span{}, false},
		{span(1, 2), math.MinInt, math.MinInt, math.MinInt, api.Span{}, false},
		{span(math.MinInt, 2), 5, 0, 0, api.Span{}, false},
		{span(1, math.MaxInt), 0, 0, 0, api.Span{}, false},
	} {
		x.check(t)
	}
}

func TestP305(t *testing.T) {
	for _, s := range texts() {
		seen := map[api.Spot]int{}
		for at := range len(s) + 1 {
			p, ok := At(s, at)
			if other, twice := seen[p]; twice || !ok {
				t.Errorf("two indexes of %q have one line and column: %d, %d", s, at, other)
			}
			seen[p] = at
			if back, ok := Of(s, p); back != at || !ok {
				t.Errorf("Of of At of %q, %d is %d, %t", s, at, back, ok)
			}
		}
	}
}

func TestP305Lines(t *testing.T) {
	for _, s := range texts() {
		var l []string
		for n := range Lines(s) {
			line, ok := Line(s, n+1)
			from, there := Of(s, api.Spot{Line: n + 1, Col: 1})
			if !ok || !there || !strings.HasPrefix(s[from:], line) {
				t.Errorf("the line %d of %q does not begin at its first column: %q, %d", n+1, s, line, from)
			}
			l = append(l, line)
		}
		if back := strings.Join(l, "\n"); back != s {
			t.Errorf("the lines of %q make %q", s, back)
		}
	}
}

func TestP306(t *testing.T) {
	numbers := []int{0, 1, 2, 3, 5, 8, Most/2 - 1, Most / 2}
	var spans []api.Span
	for _, from := range numbers {
		for _, to := range numbers {
			spans = append(spans, span(from, to))
		}
	}
	moved := 0
	for _, a := range spans {
		for _, at := range numbers {
			for _, cut := range numbers {
				for _, put := range numbers {
					b, ok := Move(a, at, cut, put)
					if !ok {
						continue
					}
					moved++
					if Len(b) != Len(a) || !Right(b, Most) {
						t.Error("a moved span has another length:", a, at, cut, put, b)
					}
					if back, ok := Move(b, at, put, cut); Len(a) > 0 && (back != a || !ok) {
						t.Error("moved back:", a, at, cut, put, b, back, ok)
					}
				}
			}
		}
	}
	if moved == 0 {
		t.Error("no span was moved")
	}
}
