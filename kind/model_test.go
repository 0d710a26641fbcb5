package kind

import (
	"math"
	"slices"

	"facsimile/api"
)

// lcg is a row of numbers that look mixed, the same in each run.
type lcg uint64

func (r *lcg) below(n int) int {
	*r = *r*6364136223846793005 + 1442695040888963407
	return int(uint64(*r)>>33) % n
}

// in reports whether b is in s, by what package api says of sets.
func in(s api.Set, b int) bool {
	return s[b/64]>>(b%64)&1 == 1
}

// where is the set of the bytes that keep says yes to.
func where(keep func(b int) bool) api.Set {
	var s api.Set
	for b := range 256 {
		if keep(b) {
			s[b/64] |= 1 << (b % 64)
		}
	}
	return s
}

// setOf is the set of some bytes.
func setOf(l ...byte) api.Set {
	return where(func(b int) bool { return slices.Contains(l, byte(b)) })
}

// numbered are the classes of the bytes that same says are alike, numbered in the order of their least bytes: a byte is
// held against each smaller one.
func numbered(same func(a, b int) bool) ([256]uint8, int) {
	var of [256]uint8
	count := 0
	for b := range 256 {
		a := 0
		for a < b && !same(a, b) {
			a++
		}
		if a < b {
			of[b] = of[a]
			continue
		}
		of[b] = uint8(count)
		count++
	}
	return of, count
}

// modelOf is what Of must answer.
func modelOf(l []api.Set) ([256]uint8, int) {
	return numbered(func(a, b int) bool {
		for _, s := range l {
			if in(s, a) != in(s, b) {
				return false
			}
		}
		return true
	})
}

// modelSplit is what Split must answer.
func modelSplit(of [256]uint8, s api.Set) [256]uint8 {
	finer, _ := numbered(func(a, b int) bool { return of[a] == of[b] && in(s, a) == in(s, b) })
	return finer
}

// modelRight is what Right must answer: the number of each new class is how many there were before.
func modelRight(of [256]uint8) bool {
	var before []uint8
	for _, class := range of {
		if slices.Contains(before, class) {
			continue
		}
		if int(class) != len(before) {
			return false
		}
		before = append(before, class)
	}
	return true
}

// sets are none, one and all bytes, sets with edges at and around the words' ends, and mixed ones.
func sets() []api.Set {
	l := []api.Set{
		{},
		{math.MaxUint64, math.MaxUint64, math.MaxUint64, math.MaxUint64},
		setOf('a', 'b', 'c'),
		setOf('b'),
		setOf(0),
		setOf(255),
		setOf(0, 255),
		setOf(63, 64),
		setOf(127, 128),
		where(func(b int) bool { return b != 0 }),
		where(func(b int) bool { return b != 255 }),
		where(func(b int) bool { return b < 128 }),
		where(func(b int) bool { return b >= 64 && b < 192 }),
		where(func(b int) bool { return b%3 == 1 }),
		where(func(b int) bool { return b%64 == 63 }),
	}
	r := lcg(1)
	for n := range 12 {
		l = append(l, where(func(int) bool { return r.below(12) < n }))
	}
	return l
}

// bits are the sets of the bytes with the bit 0, 1 .. 7: together they tell all bytes apart.
func bits() []api.Set {
	var l []api.Set
	for bit := range 8 {
		l = append(l, where(func(b int) bool { return b>>bit&1 == 1 }))
	}
	return l
}

// singles are the sets of one byte, in an order of their own.
func singles() []api.Set {
	var l []api.Set
	for n := range 256 {
		l = append(l, setOf(byte(n*37+11)))
	}
	return l
}

// lists are lists of sets: none, one, two, the same again, many, and such as tell all bytes apart.
func lists() [][]api.Set {
	l := [][]api.Set{nil, {}, bits(), bits()[1:], bits()[:7], singles(), singles()[1:], singles()[:200], sets(), slices.Repeat(bits()[3:5], 300)}
	all := sets()
	for i, s := range all {
		l = append(l, []api.Set{s}, []api.Set{s, s})
		for _, other := range all[i+1:] {
			l = append(l, []api.Set{s, other}, []api.Set{other, s})
		}
	}
	r := lcg(2)
	for n := range 60 {
		var some []api.Set
		for range n % 12 {
			some = append(some, all[r.below(len(all))])
		}
		l = append(l, some)
	}
	return l
}

// classes are classes of all bytes: right ones, and such as are not.
func classes() [][256]uint8 {
	var each, back, last, high, word [256]uint8
	for b := range 256 {
		each[b], back[b], high[b], word[b] = uint8(b), uint8(255-b), 255, uint8(b/64)
	}
	last[255] = 255
	l := [][256]uint8{{}, each, back, last, high, word}
	r := lcg(3)
	for _, most := range []int{2, 3, 5, 16, 100, 255, 256} {
		for range 4 {
			var mixed, grown [256]uint8
			next := 0
			for b := range 256 {
				mixed[b] = uint8(r.below(most))
				class := r.below(min(next+1, most))
				grown[b] = uint8(class)
				next = max(next, class+1)
			}
			l = append(l, mixed, grown)
		}
	}
	for _, sets := range [][]api.Set{bits()[:3], sets()[2:9], singles()[:100]} {
		of, _ := modelOf(sets)
		l = append(l, of)
	}
	return l
}

// numbers are numbers of classes, and such as are none.
func numbers() []int {
	l := []int{math.MinInt, math.MinInt + 1, math.MinInt + 255, -1 << 32, -1 << 8, -255, -1, 1 << 16, 1 << 32, 1<<32 + 1, 1 << 62, math.MaxInt - 1, math.MaxInt}
	for n := range 600 {
		l = append(l, n)
	}
	return l
}
