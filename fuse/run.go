package fuse

import "facsimile/api"

// none is the token where none is read.
const none = -1

const wordBits = 64

// Start returns the spots that the first byte b of a word leads to, increasing.
func Start(n api.Net, b byte) []int {
	if !Right(n) {
		return nil
	}
	return having(n, n.First, b)
}

// Step returns the spots that the byte b leads to from those of at, increasing.
func Step(n api.Net, at []int, b byte) []int {
	if !Right(n) {
		return nil
	}
	return step(n, joined(len(n.Sets), at), b)
}

// Run returns the spots that the word w leads to, increasing.
func Run(n api.Net, w string) []int {
	if w == "" || !Right(n) {
		return nil
	}
	at := having(n, n.First, w[0])
	for i := 1; i < len(w) && len(at) > 0; i++ {
		at = step(n, at, w[i])
	}
	return at
}

// Token returns the first token that is read at the spots of at, or -1 if there is none.
func Token(n api.Net, at []int) int {
	if !Right(n) {
		return none
	}
	token := none
	for _, p := range joined(len(n.Sets), at) {
		if n.Last[p] && (token == none || n.Of[p] < token) {
			token = n.Of[p]
		}
	}
	return token
}

// step does what Step does, for a net that is Right and for spots of it: Run need not look at the whole net for each byte.
func step(n api.Net, at []int, b byte) []int {
	var after [][]int
	for _, p := range at {
		after = append(after, n.Follow[p])
	}
	return having(n, joined(len(n.Sets), after...), b)
}

// having returns those spots of at whose Set contains b, in their order.
func having(n api.Net, at []int, b byte) []int {
	var l []int
	for _, p := range at {
		if n.Sets[p][b/wordBits]>>(b%wordBits)&1 == 1 {
			l = append(l, p)
		}
	}
	return l
}

// joined returns what is in any of the lists, increasing, each once; numbers that are none of the count spots are left out.
func joined(count int, lists ...[]int) []int {
	// Many spots may each be followed by most spots: marking looks at each of these once, sorting would do so many times.
	marked := make([]bool, count)
	for _, l := range lists {
		for _, p := range l {
			if p >= 0 && p < count {
				marked[p] = true
			}
		}
	}
	var all []int
	for p := range count {
		if marked[p] {
			all = append(all, p)
		}
	}
	return all
}
