package many

import (
	"math"
	"slices"
)

// lcg is a row of numbers that look mixed, the same in each run.
type lcg uint64

func (r *lcg) below(n int) int {
	*r = *r*6364136223846793005 + 1442695040888963407
	return int(uint64(*r)>>33) % n
}

// edges are numbers at the ends of what ints and texts of them can be.
func edges() []int {
	return []int{math.MinInt, math.MinInt + 1, -1 << 32, -10, -1, 0, 1, 10, 1 << 32, math.MaxInt - 1, math.MaxInt}
}

// chosen are the elements of l whose bits are set in bits.
func chosen(l []int, bits int) []int {
	var some []int
	for i, n := range l {
		if bits>>i&1 == 1 {
			some = append(some, n)
		}
	}
	return some
}

// eachList calls see with all lists of up to n of the numbers.
func eachList(numbers []int, n int, see func(l []int)) {
	all := [][]int{nil}
	for from := 0; from < len(all); from++ {
		see(all[from])
		for _, more := range numbers {
			if len(all[from]) < n {
				all = append(all, append(slices.Clone(all[from]), more))
			}
		}
	}
}

// increasing is what the chapter says of Of: the least element that is greater than all before, again and again.
func increasing(l []int) []int {
	var out []int
	for {
		next, found := 0, false
		for _, n := range l {
			if (len(out) == 0 || n > out[len(out)-1]) && (!found || n < next) {
				next, found = n, true
			}
		}
		if !found {
			return out
		}
		out = append(out, next)
	}
}

// isIn reports whether n is an element of l, whatever its order.
func isIn(l []int, n int) bool {
	for _, element := range l {
		if element == n {
			return true
		}
	}
	return false
}

// those are the elements of l of which keep says so, in their order.
func those(l []int, keep func(n int) bool) []int {
	var out []int
	for _, n := range l {
		if keep(n) {
			out = append(out, n)
		}
	}
	return out
}

// mixed is a list of n numbers, the same for the same numbers, of which each is below most or its negative.
func mixed(r *lcg, n, most int) []int {
	l := make([]int, n)
	for i := range l {
		l[i] = r.below(most) * (1 - 2*r.below(2))
	}
	return l
}

// unordered are lists that are not increasing.
func unordered() [][]int {
	return [][]int{
		{0, 0}, {1, 0}, {0, 1, 1}, {0, 2, 1}, {3, 2, 1, 0}, {-1, -2},
		{math.MaxInt, math.MinInt}, {math.MinInt, math.MinInt}, {math.MaxInt, math.MaxInt}, {0, math.MinInt}, {5, 1, 5, 1, 5},
	}
}
