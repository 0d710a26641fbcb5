// Package num is layer 1: decimal numbers, hexadecimal bytes, and sums with a maximum. See shared/doc/01-num.md.
package num

import (
	"strings"

	"facsimile/api"
)

// mostDigits is how many digits the greatest int, 2^63 - 1, has.
const mostDigits = 19

const hexDigits = "0123456789abcdef"

// Show returns the decimal digits of n, or "" for a negative n.
func Show(n int) string {
	if n < 0 {
		return ""
	}
	var digits [mostDigits]byte
	at := len(digits) - 1
	for ; n > 9; at-- {
		digits[at] = byte('0' + n%10)
		n /= 10
	}
	digits[at] = byte('0' + n)
	return string(digits[at:])
}

// Read returns the number that s shows, if it is at most most.
func Read(s string, most int) (int, api.Errno) {
	if !isDecimal(s) {
		return 0, api.ErrForm
	}
	n := 0
	for i := range len(s) {
		digit := int(s[i] - '0')
		// n*10 + digit might overflow, so n is held against what most leaves for it.
		if digit > most || n > (most-digit)/10 {
			return 0, api.ErrRange
		}
		n = n*10 + digit
	}
	return n, api.OK
}

// isDecimal reports whether s is at least one digit, without leading zeros.
func isDecimal(s string) bool {
	for i := range len(s) {
		if s[i] < '0' || s[i] > '9' {
			return false
		}
	}
	return len(s) == 1 || len(s) > 1 && s[0] != '0'
}

// Cap returns the sum of the positive numbers of l, at most top; 0 if top is negative.
func Cap(top int, l ...int) int {
	top = max(top, 0)
	sum := 0
	add := func(n int) {
		// top - sum is never negative, whereas sum + n might overflow.
		sum += min(max(n, 0), top-sum)
	}
	for _, n := range l {
		add(n)
	}
	return sum
}

// Hex returns the two hexadecimal digits of b, the higher one first.
func Hex(b byte) string {
	return string([]byte{hexDigits[b>>4], hexDigits[b&15]})
}

// Unhex returns the byte whose Hex is s, and whether there is one.
func Unhex(s string) (byte, bool) {
	if len(s) != 2 {
		return 0, false
	}
	high := strings.IndexByte(hexDigits, s[0])
	low := strings.IndexByte(hexDigits, s[1])
	if high < 0 || low < 0 {
		return 0, false
	}
	return byte(high<<4 | low), true
}
