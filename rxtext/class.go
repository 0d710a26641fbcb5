package rxtext

import (
	"strings"

	"facsimile/api"
	"facsimile/bset"
)

// allBytes is how many bytes there are.
const allBytes = 256

// dot returns the set that a dot stands for.
func dot() api.Set {
	return bset.Not(bset.One('\n'))
}

// ShowSet returns the text of the set s.
func ShowSet(s api.Set) string {
	switch {
	case bset.Count(s) == 1:
		return showChar(byte(bset.First(s)), textReserved)
	case s == dot():
		return "."
	case shownByOthers(s):
		return "[^" + showRuns(bset.Not(s)) + "]"
	}
	return "[" + showRuns(s) + "]"
}

// shownByOthers reports whether the class of s names the bytes that are not in s. A class names at least one byte.
func shownByOthers(s api.Set) bool {
	n := bset.Count(s)
	return n == 0 || n > allBytes/2 && n < allBytes
}

// showRuns returns the items of a class that has the bytes of s.
func showRuns(s api.Set) string {
	var out strings.Builder
	for _, run := range bset.Runs(s) {
		out.WriteString(showMember(run[0]))
		if run[1] > run[0]+1 {
			out.WriteByte('-')
		}
		if run[1] > run[0] {
			out.WriteString(showMember(run[1]))
		}
	}
	return out.String()
}

// showMember returns the byte b as a member of a class.
func showMember(b int) string {
	return showChar(byte(b), classReserved)
}

// readSet returns the set of the dot, the class or the character that stands in s at at, and where it ends; or where it
// is wrong, and false.
func readSet(s string, at int) (api.Set, int, bool) {
	switch s[at] {
	case '.':
		return dot(), at + 1, true
	case '[':
		return readClass(s, at+1)
	}
	b, end, ok := readChar(s, at, textReserved)
	if !ok {
		return api.Set{}, end, false
	}
	return bset.One(b), end, true
}

// readClass is readSet for what stands from at on behind the bracket that opens a class.
func readClass(s string, at int) (api.Set, int, bool) {
	others := standsAt(s, at, '^')
	if others {
		at++
	}
	var all api.Set
	for first := at; at == first || !standsAt(s, at, ']'); {
		set, end, ok := readItem(s, at)
		if !ok {
			return api.Set{}, end, false
		}
		all = bset.All(all, set)
		at = end
	}
	if others {
		all = bset.Not(all)
	}
	return all, at + 1, true
}

// readItem is readSet for the item of a class that stands at at.
func readItem(s string, at int) (api.Set, int, bool) {
	lo, end, ok := readChar(s, at, classReserved)
	if !ok {
		return api.Set{}, end, false
	}
	if !standsAt(s, end, '-') {
		return bset.One(lo), end, true
	}
	hi, end, ok := readChar(s, end+1, classReserved)
	switch {
	case !ok:
		return api.Set{}, end, false
	case hi < lo:
		return api.Set{}, end - 1, false
	}
	return bset.Span(int(lo), int(hi)), end, true
}

// standsAt reports whether s has the byte b at at.
func standsAt(s string, at int, b byte) bool {
	return at < len(s) && s[at] == b
}
