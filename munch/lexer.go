package munch

import "facsimile/api"

// apart is how many bytes lie between two places of a text at which points are kept: few points take little room, and no word is followed much further than it need be.
const apart = 256

// point is a state, and the place in a text behind the word that leads to it.
type point [2]int

// lexer reads a text by an automaton that is Right, piece by piece.
type lexer struct {
	dfa  api.Dfa
	text string
	// passed are the points, at places that are apart, that have been come by so far.
	passed map[point]struct{}
}

// next returns the token of the piece at the place at, and the place behind the piece.
func (l *lexer) next(at int) (int, int) {
	begin := point{0, at}
	last := begin
	state := 0
	for place := at; place < len(l.text); {
		state = l.dfa.Next[state][l.dfa.Class[l.text[place]]]
		place++
		if state == none || place%apart == 0 && l.again(point{state, place}) {
			break
		}
		if l.dfa.Label[state] != none {
			last = point{state, place}
		}
	}
	if last == begin {
		return none, at + 1
	}
	return l.dfa.Label[last[0]], last[1]
}

// again reports whether p was come by for an earlier piece as well; it is from now on.
//
// If it was, no token is read at p or further on: the earlier piece would reach there, and this one would begin behind it.
// Without that, a text of which each byte may begin a word as long as the rest would be read to its end for each byte.
func (l *lexer) again(p point) bool {
	_, known := l.passed[p]
	l.passed[p] = struct{}{}
	return known
}
