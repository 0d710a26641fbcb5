package bset

import (
	"bytes"
	"math"
	"slices"
	"testing"

	"facsimile/api"
)

// model is a set of bytes in the plainest form: one answer a byte.
type model [256]bool

// modelOf reads s by what package api says of it, and by no function of this package.
func modelOf(s api.Set) model {
	var m model
	for b := range m {
		m[b] = s[b/64]&(1<<(b%64)) != 0
	}
	return m
}

// set writes m by what package api says of sets.
func (m model) set() api.Set {
	var s api.Set
	for b := range m {
		if m[b] {
			s[b/64] |= 1 << (b % 64)
		}
	}
	return s
}

// bytes are the elements of m, increasing.
func (m model) bytes() []byte {
	var l []byte
	for b := range m {
		if m[b] {
			l = append(l, byte(b))
		}
	}
	return l
}

// runs are the maximal runs of m, increasing.
func (m model) runs() [][2]int {
	var l [][2]int
	for b := range m {
		if !m[b] {
			continue
		}
		if b > 0 && m[b-1] {
			l[len(l)-1][1] = b
		} else {
			l = append(l, [2]int{b, b})
		}
	}
	return l
}

// where is the set of the bytes that keep says yes to.
func where(keep func(b int) bool) api.Set {
	var m model
	for b := range m {
		m[b] = keep(b)
	}
	return m.set()
}

// of is the set of l.
func of(l ...byte) api.Set {
	return where(func(b int) bool { return bytes.IndexByte(l, byte(b)) >= 0 })
}

// samples are sets of none, one and all bytes, with edges at and around the words' ends, and mixed ones.
func samples() []api.Set {
	l := []api.Set{
		{},
		{math.MaxUint64, math.MaxUint64, math.MaxUint64, math.MaxUint64},
		of('a', 'b', 'c', 'x'),
		where(func(b int) bool { return b%2 == 0 }),
		where(func(b int) bool { return b%2 == 1 }),
		where(func(b int) bool { return b%3 != 0 }),
		where(func(b int) bool { return b/64%2 == 0 }),
		where(func(b int) bool { return b >= 128 }),
		where(func(b int) bool { return b < 128 }),
		where(func(b int) bool { return b != 0 && b != 255 }),
		where(func(b int) bool { return b%64 == 0 || b%64 == 63 }),
		where(func(b int) bool { return b%64 != 0 && b%64 != 63 }),
		where(func(b int) bool { return b > 60 && b < 200 }),
	}
	for _, b := range []byte{0, 1, 31, 32, 62, 63, 64, 65, 127, 128, 191, 192, 254, 255} {
		l = append(l, of(b), of(b, b+1), where(func(c int) bool { return c != int(b) }))
	}
	mixed := uint64(1)
	for range 40 {
		var s api.Set
		for i := range s {
			mixed = mixed*6364136223846793005 + 1442695040888963407
			s[i] = mixed ^ mixed>>29
		}
		// Sparse and dense sets beside those of about as many bytes as not.
		l = append(l, s, api.Set{s[0] & s[1] & s[2], s[1] & s[2] & s[3], s[2] & s[3] & s[0], s[3] & s[0] & s[1]},
			api.Set{s[0] | s[1] | s[2], s[1] | s[2] | s[3], s[2] | s[3] | s[0], s[3] | s[0] | s[1]})
	}
	return l
}

func TestP201Equal(t *testing.T) {
	for i, a := range samples() {
		for j, b := range samples() {
			same := bytes.Equal(Bytes(a), Bytes(b))
			if (a == b) != same {
				t.Error("sets are equal, but not their elements, or the other way round:", i, j)
			}
		}
	}
	var l []api.Set
	for b := range 256 {
		l = append(l, One(byte(b)))
	}
	ways := []api.Set{All(l...), Span(0, 255), Span(math.MinInt, math.MaxInt), Not(Span(1, 0)), Not(All()), All(Span(100, 255), Span(0, 120))}
	for i, s := range ways {
		if s != ways[0] {
			t.Error("the set of all bytes differs by how it is made:", i, s)
		}
	}
}

func TestP201Arguments(t *testing.T) {
	backing := samples()
	before := slices.Clone(backing)
	few := backing[:7]
	first := All(few...)
	if again := All(few...); again != first {
		t.Error("All differs from call to call:", first, again)
	}
	if !slices.Equal(backing, before) {
		t.Error("All changed its argument")
	}
	if All() != (api.Set{}) || All([]api.Set(nil)...) != (api.Set{}) || All([]api.Set{}...) != (api.Set{}) {
		t.Error("no sets have a union that is not empty")
	}
	many := slices.Repeat(backing[2:3], 1<<16)
	if All(many...) != backing[2] {
		t.Error("All of many sets")
	}
}

func TestP201NewMemory(t *testing.T) {
	for i, s := range samples() {
		l, r := Bytes(s), Runs(s)
		for j := range l {
			l[j]++
		}
		for j := range r {
			r[j] = [2]int{-1, -1}
		}
		if !bytes.Equal(Bytes(s), modelOf(s).bytes()) || !slices.Equal(Runs(s), modelOf(s).runs()) {
			t.Error("a result shares memory with one that was given before:", i)
		}
	}
}

func TestP202One(t *testing.T) {
	for b := range 256 {
		if s := One(byte(b)); s != where(func(c int) bool { return c == b }) {
			t.Error("One:", b, s)
		}
	}
}

func TestP202Span(t *testing.T) {
	ends := []int{math.MinInt, math.MinInt + 1, math.MinInt + 255, -1 << 32, -256, -255, math.MaxInt, math.MaxInt - 1, 1 << 62, 1 << 32, 511, 512}
	for n := -66; n <= 322; n++ {
		ends = append(ends, n)
	}
	for _, lo := range ends {
		for _, hi := range ends {
			want := where(func(b int) bool { return lo <= b && b <= hi })
			if s := Span(lo, hi); s != want {
				t.Fatal("Span:", lo, hi, s)
			}
		}
	}
}

func TestP202Pairs(t *testing.T) {
	for _, a := range samples() {
		for _, b := range samples() {
			x, y := modelOf(a), modelOf(b)
			if s := All(a, b); s != where(func(c int) bool { return x[c] || y[c] }) {
				t.Fatal("All:", a, b, s)
			}
			if s := And(a, b); s != where(func(c int) bool { return x[c] && y[c] }) {
				t.Fatal("And:", a, b, s)
			}
			if s := Minus(a, b); s != where(func(c int) bool { return x[c] && !y[c] }) {
				t.Fatal("Minus:", a, b, s)
			}
		}
	}
}

func TestP202Not(t *testing.T) {
	for _, a := range samples() {
		x := modelOf(a)
		if s := Not(a); s != where(func(c int) bool { return !x[c] }) {
			t.Error("Not:", a, s)
		}
	}
}

func TestP202AllOfMore(t *testing.T) {
	l := samples()
	for n := range len(l) {
		var m model
		for _, s := range l[n/2 : n] {
			for b, has := range modelOf(s) {
				m[b] = m[b] || has
			}
		}
		if s := All(l[n/2 : n]...); s != m.set() {
			t.Error("All:", n, s)
		}
	}
	if s := All(of('q'), of(0), of('q'), of(255), api.Set{}); s != of(0, 'q', 255) {
		t.Error("All:", s)
	}
}

func TestP203(t *testing.T) {
	for i, s := range samples() {
		m := modelOf(s)
		for b := range m {
			if Has(s, byte(b)) != m[b] {
				t.Error("Has:", i, b)
			}
		}
		want := m.bytes()
		if n := Count(s); n != len(want) {
			t.Error("Count:", i, n)
		}
		if l := Bytes(s); !bytes.Equal(l, want) {
			t.Error("Bytes:", i, l)
		}
		if l := Runs(s); !slices.Equal(l, m.runs()) {
			t.Error("Runs:", i, l)
		}
		least := -1
		if len(want) > 0 {
			least = int(want[0])
		}
		if n := First(s); n != least {
			t.Error("First:", i, n)
		}
	}
}

func TestP203Examples(t *testing.T) {
	for i, x := range []struct {
		s     api.Set
		runs  [][2]int
		count int
		first int
	}{
		{api.Set{}, nil, 0, -1},
		{of('a', 'b', 'c', 'x'), [][2]int{{97, 99}, {120, 120}}, 4, 97},
		{of(0), [][2]int{{0, 0}}, 1, 0},
		{of(255), [][2]int{{255, 255}}, 1, 255},
		{of(0, 255), [][2]int{{0, 0}, {255, 255}}, 2, 0},
		{of(63, 64), [][2]int{{63, 64}}, 2, 63},
		{of(127, 128, 191, 193), [][2]int{{127, 128}, {191, 191}, {193, 193}}, 4, 127},
		{Span(0, 255), [][2]int{{0, 255}}, 256, 0},
		{Span(64, 127), [][2]int{{64, 127}}, 64, 64},
		{Span(250, 300), [][2]int{{250, 255}}, 6, 250},
		{Span(9, 8), nil, 0, -1},
		{Span(-9, -1), nil, 0, -1},
		{Span(256, 300), nil, 0, -1},
		{Minus(Span(60, 200), One(128)), [][2]int{{60, 127}, {129, 200}}, 140, 60},
	} {
		if l := Runs(x.s); !slices.Equal(l, x.runs) {
			t.Error("Runs:", i, l)
		}
		if n := Count(x.s); n != x.count || n != len(Bytes(x.s)) {
			t.Error("Count:", i, n)
		}
		if n := First(x.s); n != x.first {
			t.Error("First:", i, n)
		}
	}
}

// meet is the And of l: of no sets, all bytes.
func meet(l []api.Set) api.Set {
	s := Span(0, 255)
	for _, x := range l {
		s = And(s, x)
	}
	return s
}

func TestP204(t *testing.T) {
	l := samples()
	var nots []api.Set
	for i, s := range l {
		if Not(Not(s)) != s {
			t.Error("Not of Not:", i)
		}
		if And(s, Not(s)) != (api.Set{}) || All(s, Not(s)) != Span(0, 255) {
			t.Error("a set and its complement:", i)
		}
		nots = append(nots, Not(s))
	}
	for from := range l {
		for to := from; to <= min(from+5, len(l)); to++ {
			if Not(All(l[from:to]...)) != meet(nots[from:to]) {
				t.Error("Not of All:", from, to)
			}
		}
	}
	for i, a := range l {
		for j, b := range l {
			if Not(All(a, b)) != And(Not(a), Not(b)) || Minus(a, b) != And(a, Not(b)) {
				t.Error("Not of All, or Minus:", i, j)
			}
		}
	}
}

func TestP205(t *testing.T) {
	for i, s := range samples() {
		var spans []api.Set
		n := 0
		for _, run := range Runs(s) {
			spans = append(spans, Span(run[0], run[1]))
			n += run[1] - run[0] + 1
		}
		if back := All(spans...); back != s {
			t.Error("All of the Spans of Runs:", i, back)
		}
		if n != Count(s) {
			t.Error("bytes of the Runs:", i, n, Count(s))
		}
	}
	for lo := range 256 {
		for hi := lo; hi < 256; hi++ {
			if l := Runs(Span(lo, hi)); !slices.Equal(l, [][2]int{{lo, hi}}) {
				t.Error("Runs of a Span:", lo, hi, l)
			}
		}
	}
}
