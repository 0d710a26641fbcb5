package rxtext

import (
	"strings"

	"facsimile/num"
)

const (
	backslash = '\\'
	hexName   = 'x'
)

// What does not stand for itself: as a character of a text, and as a member of a class.
const (
	textReserved  = `()[]|*+?.\`
	classReserved = `[]^-\`
)

// The letters behind a backslash that stand for a byte, and these bytes, in the same order.
const (
	escapeNames = "ntr"
	escapeBytes = "\n\t\r"
)

// visible reports whether b has a sign of its own; the blank has none.
func visible(b byte) bool {
	return b > ' ' && b <= '~'
}

// alphanumeric reports whether b is a letter or a digit.
func alphanumeric(b byte) bool {
	return b >= 'a' && b <= 'z' || b >= 'A' && b <= 'Z' || b >= '0' && b <= '9'
}

// showChar returns b as it stands where the reserved bytes do not stand for themselves.
func showChar(b byte, reserved string) string {
	name := strings.IndexByte(escapeBytes, b)
	switch {
	case name >= 0:
		return string([]byte{backslash, escapeNames[name]})
	case !visible(b):
		return string([]byte{backslash, hexName}) + num.Hex(b)
	case strings.IndexByte(reserved, b) >= 0:
		return string([]byte{backslash, b})
	}
	return string([]byte{b})
}

// readChar returns the byte that stands in s at at, where the reserved bytes do not stand for themselves, and where
// it ends; or where it is wrong, and false.
func readChar(s string, at int, reserved string) (byte, int, bool) {
	switch {
	case at == len(s):
		return 0, at, false
	case s[at] == backslash:
		return readEscape(s, at+1)
	case !visible(s[at]) || strings.IndexByte(reserved, s[at]) >= 0:
		return 0, at, false
	}
	return s[at], at + 1, true
}

// readEscape is readChar for what stands from at on behind a backslash.
func readEscape(s string, at int) (byte, int, bool) {
	if at == len(s) {
		return 0, at, false
	}
	name := strings.IndexByte(escapeNames, s[at])
	switch {
	case name >= 0:
		return escapeBytes[name], at + 1, true
	case s[at] == hexName:
		return readHex(s, at+1)
	case !visible(s[at]) || alphanumeric(s[at]):
		return 0, at, false
	}
	return s[at], at + 1, true
}

// readHex is readChar for two digits from at on.
func readHex(s string, at int) (byte, int, bool) {
	end := at + 2
	for i := at; i < end; i++ {
		if i == len(s) || !hexDigit(s[i]) {
			return 0, i, false
		}
	}
	b, ok := num.Unhex(s[at:end])
	return b, end, ok
}

// hexDigit reports whether b is one of the digits of bytes.
func hexDigit(b byte) bool {
	_, ok := num.Unhex(string([]byte{'0', b}))
	return ok
}
