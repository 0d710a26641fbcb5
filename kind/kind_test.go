package kind

import (
	"bytes"
	"math"
	"slices"
	"testing"

	"facsimile/api"
	"facsimile/bset"
)

// nil and empty lists are the same: no set tells bytes apart.
func TestP1301Nil(t *testing.T) {
	for _, l := range [][]api.Set{nil, {}, make([]api.Set, 0, 8)} {
		if of, n := Of(l); of != [256]uint8{} || n != 1 {
			t.Error(of, n)
		}
	}
}

// Very long lists, and all numbers as classes: every call returns.
func TestP1301Returns(t *testing.T) {
	for _, long := range [][]api.Set{
		slices.Repeat(bits(), 1<<14),
		slices.Repeat([]api.Set{{}}, 1<<17),
		append(slices.Repeat(sets()[1:2], 1<<16), singles()...),
	} {
		short := slices.CompactFunc(slices.Clone(long), func(a, b api.Set) bool { return a == b })
		short = short[max(0, len(short)-300):]
		of, n := Of(long)
		if want, count := modelOf(short); of != want || n != count {
			t.Error(len(long), of, n)
		}
	}
	for _, of := range classes() {
		for _, c := range numbers() {
			Bytes(of, c)
		}
		Right(of)
		Width(of)
		for _, s := range sets() {
			Split(of, s)
		}
	}
}

// Arguments are not changed, nor what is behind their ends.
func TestP1301Arguments(t *testing.T) {
	for _, l := range [][]api.Set{sets(), bits(), singles()} {
		before := slices.Clone(l)
		for n := range l {
			Of(l[:n])
		}
		if !slices.Equal(l, before) {
			t.Error("Of changed its argument")
		}
	}
	for _, of := range classes() {
		before, s := of, sets()[5]
		Right(of)
		Width(of)
		Bytes(of, 0)
		Split(of, s)
		if of != before || s != sets()[5] {
			t.Error("an argument was changed")
		}
	}
}

// No result shares memory with another one.
func TestP1301NewMemory(t *testing.T) {
	for _, of := range classes() {
		for _, c := range []int{0, 1, 255} {
			first, second := Bytes(of, c), Bytes(of, c)
			want := slices.Clone(first)
			for i := range first[:cap(first)] {
				first[:cap(first)][i] ^= 0xff
			}
			if !bytes.Equal(second, want) || !bytes.Equal(Bytes(of, c), want) {
				t.Error("Bytes shares memory:", of, c)
			}
		}
	}
}

// The same arguments give the same results, whatever was called before and however often.
func TestP1301Pure(t *testing.T) {
	all := lists()
	for i := range 100 {
		l := all[i]
		of, n := Of(l)
		Of(all[len(all)-1-i])
		finer := Split(of, all[30][0])
		for range 5 {
			again, count := Of(slices.Clone(l))
			if again != of || count != n || Split(of, all[30][0]) != finer {
				t.Fatal("a call answers otherwise again:", l)
			}
		}
	}
}

func TestP1302Example(t *testing.T) {
	of, n := Of([]api.Set{setOf('a', 'b', 'c'), setOf('b')})
	if of[0] != 0 || of['a'] != 1 || of['b'] != 2 || of['c'] != 1 || of['d'] != 0 || of[255] != 0 || n != 3 {
		t.Error(of, n)
	}
	if !Right(of) || Width(of) != 3 || string(Bytes(of, 1)) != "ac" || string(Bytes(of, 2)) != "b" || len(Bytes(of, 0)) != 253 || Bytes(of, 3) != nil {
		t.Error(Right(of), Width(of), Bytes(of, 1), Bytes(of, 2), Bytes(of, 0), Bytes(of, 3))
	}
	// The byte 0 is of the class 0, whether a set has it or not.
	of = Split(of, setOf(0, 'c', 'd'))
	if of[0] != 0 || of[1] != 1 || of['a'] != 2 || of['b'] != 3 || of['c'] != 4 || of['d'] != 0 || of[255] != 1 || Width(of) != 5 {
		t.Error(of)
	}
}

func TestP1302Of(t *testing.T) {
	for _, l := range lists() {
		of, n := Of(l)
		if want, count := modelOf(l); of != want || n != count {
			t.Errorf("Of %v: %v and %d, not %v and %d", l, of, n, want, count)
		}
		if !Right(of) || Width(of) != n {
			t.Errorf("Of %v: Right %v, Width %d, not %d", l, Right(of), Width(of), n)
		}
	}
}

// Any two bytes that are of one class are told apart by a set that has one of them, and nothing else is.
func TestP1302OfPairs(t *testing.T) {
	for b := range 256 {
		for a := range b {
			one, other := bset.One(byte(a)), bset.One(byte(b))
			both := bset.All(one, other)
			of, n := Of([]api.Set{both, one})
			again, count := Of([]api.Set{both, other})
			if of[a] == of[b] || n != 3 || again != of || count != n || len(Bytes(of, int(of[a]))) != 1 || len(Bytes(of, int(of[b]))) != 1 {
				t.Fatal(a, b, of, n, again, count)
			}
		}
	}
}

// All bytes are told apart: there are 256 classes, each with its byte.
func TestP1302OfAllApart(t *testing.T) {
	for _, l := range [][]api.Set{bits(), singles(), singles()[1:], append(bits(), sets()...), append(singles(), bits()...)} {
		of, n := Of(l)
		for b := range of {
			if of[b] != uint8(b) || !bytes.Equal(Bytes(of, b), []byte{byte(b)}) {
				t.Fatal(len(l), b, of[b], Bytes(of, b))
			}
		}
		if n != 256 || Width(of) != 256 || !Right(of) {
			t.Error(len(l), n, Width(of), Right(of))
		}
	}
	// One set less, and two bytes are of one class: none of the sets has them.
	if of, n := Of(singles()[2:]); n != 255 || of[11] != of[48] || Width(of) != 255 {
		t.Error(n, of[11], of[48], Width(of))
	}
}

func TestP1302Right(t *testing.T) {
	for _, of := range classes() {
		if Right(of) != modelRight(of) {
			t.Error("Right:", of, Right(of))
		}
	}
	some := []uint8{0, 1, 2, 3, 4, 254, 255}
	for _, from := range []int{0, 1, 62, 251, 252} {
		for n := range len(some) * len(some) * len(some) * len(some) {
			var of [256]uint8
			for i := range 4 {
				of[from+i] = some[n%len(some)]
				n /= len(some)
			}
			if Right(of) != modelRight(of) {
				t.Fatal("Right:", from, of[from:from+4], Right(of))
			}
		}
	}
}

// Each byte may be of each class of the smaller ones, or the next; no other.
func TestP1302RightEachByte(t *testing.T) {
	for _, width := range []int{1, 2, 7, 255, 256} {
		for b := range 256 {
			for c := range 256 {
				var of [256]uint8
				for a := range b {
					of[a] = uint8(min(a, width-1))
				}
				of[b] = uint8(c)
				next := min(b, width)
				if got := Right(of); got != (c <= next) {
					t.Fatal("Right:", width, b, c, got)
				}
			}
		}
	}
}

func TestP1302Width(t *testing.T) {
	for _, of := range classes() {
		most := 0
		for _, class := range of {
			most = max(most, int(class))
		}
		if Width(of) != most+1 {
			t.Error("Width:", of, Width(of))
		}
	}
	// The greatest class may be that of any byte.
	for b := range 256 {
		for _, class := range []uint8{1, 127, 128, 254, 255} {
			var of [256]uint8
			of[b] = class
			if Width(of) != int(class)+1 {
				t.Fatal("Width:", b, class, Width(of))
			}
		}
	}
}

func TestP1302Bytes(t *testing.T) {
	for _, of := range classes() {
		for _, c := range numbers() {
			var want []byte
			for b, class := range of {
				if int(class) == c {
					want = append(want, byte(b))
				}
			}
			if got := Bytes(of, c); !bytes.Equal(got, want) {
				t.Error("Bytes:", of, c, got)
			}
		}
	}
	// All bytes are of one class; none of what is below or above it.
	var one [256]uint8
	if len(Bytes(one, 0)) != 256 {
		t.Error("Bytes:", Bytes(one, 0))
	}
	for _, c := range []int{math.MinInt, -256, -1, 1, 255, 256, 512, 1 << 32, math.MaxInt} {
		if l := Bytes(one, c); len(l) != 0 {
			t.Error("Bytes:", c, l)
		}
	}
}

func TestP1302Split(t *testing.T) {
	all := append(append(sets(), bits()...), singles()[:20]...)
	for _, of := range classes() {
		for _, s := range all {
			got := Split(of, s)
			if want := modelSplit(of, s); got != want {
				t.Errorf("Split of %v by %v: %v, not %v", of, s, got, want)
			}
			if !Right(got) {
				t.Errorf("Split of %v by %v is not Right: %v", of, s, got)
			}
		}
	}
}

// By a set that has all or no bytes of each class, classes that are Right are split into themselves, and others are numbered anew.
func TestP1302SplitByNothing(t *testing.T) {
	none, full := api.Set{}, bset.Span(0, 255)
	for _, of := range classes() {
		if same := Split(of, none) == of; same != Right(of) || Split(of, full) != Split(of, none) {
			t.Error("Split by no and by all bytes:", of)
		}
		for c := range Width(of) {
			if Split(of, setOf(Bytes(of, c)...)) != Split(of, none) {
				t.Error("Split by a class:", of, c)
			}
		}
	}
}

// Each set is the union of the classes that its bytes are of.
func TestP1303(t *testing.T) {
	for _, l := range lists() {
		of, n := Of(l)
		for _, s := range l {
			var parts []api.Set
			for c := range n {
				class := setOf(Bytes(of, c)...)
				if bset.And(class, s) != (api.Set{}) {
					parts = append(parts, class)
				}
			}
			if bset.All(parts...) != s {
				t.Errorf("%v is no union of classes of %v", s, l)
			}
		}
	}
}

// The classes have each byte once, and none of them is empty.
func TestP1303Classes(t *testing.T) {
	for _, l := range lists() {
		of, n := Of(l)
		var all []byte
		for c := range n {
			class := Bytes(of, c)
			if len(class) == 0 || !slices.IsSorted(class) {
				t.Errorf("Of %v: the class %d is %v", l, c, class)
			}
			all = append(all, class...)
		}
		slices.Sort(all)
		if !bytes.Equal(all, bset.Bytes(bset.Span(0, 255))) || len(Bytes(of, n)) != 0 {
			t.Errorf("Of %v: the classes have %v", l, all)
		}
	}
}

// Of is the Splits by each set, whatever list they go on from.
func TestP1304(t *testing.T) {
	for _, l := range lists() {
		var of [256]uint8
		for i, s := range l {
			before, count := Of(l[:i])
			if before != of || count != Width(of) {
				t.Errorf("Of the first %d of %v: %v and %d, not %v", i, l, before, count, of)
			}
			of = Split(of, s)
		}
		if got, n := Of(l); got != of || n != Width(of) {
			t.Errorf("Of %v: %v and %d, not %v", l, got, n, of)
		}
	}
}

// The order of the sets, and how often each stands there, make no difference.
func TestP1304Order(t *testing.T) {
	for _, l := range lists() {
		back := slices.Clone(l)
		slices.Reverse(back)
		of, n := Of(l)
		for _, other := range [][]api.Set{back, slices.Concat(l, back), slices.Concat(back, l, l)} {
			if got, count := Of(other); got != of || count != n {
				t.Errorf("Of %v: %v and %d, not %v and %d", other, got, count, of, n)
			}
		}
	}
}
