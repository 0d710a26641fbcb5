package rxtext

import (
	"fmt"
	"slices"
	"strings"

	"facsimile/api"
)

// bytesOf is a set of bytes in the plainest form.
type bytesOf [256]bool

// set writes m by what package api says of sets.
func (m bytesOf) set() api.Set {
	var s api.Set
	for b := range m {
		if m[b] {
			s[b/64] |= 1 << (b % 64)
		}
	}
	return s
}

// not are the other bytes.
func (m bytesOf) not() bytesOf {
	for b := range m {
		m[b] = !m[b]
	}
	return m
}

// count is how many bytes m has.
func (m bytesOf) count() int {
	n := 0
	for b := range m {
		if m[b] {
			n++
		}
	}
	return n
}

// where are the bytes that keep says yes to.
func where(keep func(b int) bool) bytesOf {
	var m bytesOf
	for b := range m {
		m[b] = keep(b)
	}
	return m
}

// only are the bytes of s.
func only(s string) bytesOf {
	return where(func(b int) bool { return strings.IndexByte(s, byte(b)) >= 0 })
}

// dotted are all bytes but 10.
var dotted = where(func(b int) bool { return b != 10 })

// lcg is a row of numbers that look mixed, the same in each run.
type lcg uint64

func (r *lcg) below(n int) int {
	*r = *r*6364136223846793005 + 1442695040888963407
	return int(uint64(*r)>>33) % n
}

// forms are all forms of all bytes beside those reserved for signs, and the bytes that they stand for.
func forms(reserved string) map[string]byte {
	const letters = "abcdefghijklmnopqrstuvwxyzABCDEFGHIJKLMNOPQRSTUVWXYZ0123456789"
	l := map[string]byte{`\n`: 10, `\t`: 9, `\r`: 13}
	for b := range 256 {
		one := string([]byte{byte(b)})
		l[fmt.Sprintf(`\x%02x`, b)] = byte(b)
		if b < 33 || b > 126 {
			continue
		}
		if !strings.Contains(letters, one) {
			l[`\`+one] = byte(b)
		}
		if !strings.Contains(reserved, one) {
			l[one] = byte(b)
		}
	}
	return l
}

var (
	characters = forms("()[]|*+?.\\")
	members    = forms("[]^-\\")
)

// model reads texts as the chapter defines them, by all ways of splitting them. If it is lax, it takes members of an
// item in either order.
type model struct {
	lax   bool
	known map[string][]api.Rx
}

// strict and lax are models, which keep what they found out.
var (
	strict = &model{known: map[string][]api.Rx{}}
	lax    = &model{known: map[string][]api.Rx{}, lax: true}
)

func step(kind api.RxKind) []api.Rx {
	return []api.Rx{{Kind: kind}}
}

func one(m bytesOf) []api.Rx {
	return []api.Rx{{Kind: api.RxSet, Set: m.set()}}
}

// text are the steps of the text s; nil if it is none.
func (m *model) text(s string) []api.Rx {
	l, ok := m.known[s]
	if !ok {
		l = m.newText(s)
		m.known[s] = l
	}
	return l
}

func (m *model) newText(s string) []api.Rx {
	if s == "" {
		return step(api.RxEmpty)
	}
	if l := m.pieces(s); l != nil {
		return l
	}
	for i := range len(s) {
		if s[i] != '|' {
			continue
		}
		b := m.pieces(s[i+1:])
		if i+1 == len(s) {
			b = step(api.RxEmpty)
		}
		if b == nil {
			continue
		}
		if a := m.text(s[:i]); a != nil {
			return slices.Concat(a, b, step(api.RxAlt))
		}
	}
	return nil
}

// pieces are the steps of one or more pieces.
func (m *model) pieces(s string) []api.Rx {
	if l := m.piece(s); l != nil {
		return l
	}
	for i := 1; i < len(s); i++ {
		if b := m.piece(s[i:]); b != nil {
			if a := m.pieces(s[:i]); a != nil {
				return slices.Concat(a, b, step(api.RxCat))
			}
		}
	}
	return nil
}

func (m *model) piece(s string) []api.Rx {
	if l := m.atom(s); l != nil || s == "" {
		return l
	}
	kinds := map[byte]api.RxKind{'*': api.RxStar, '+': api.RxPlus, '?': api.RxOpt}
	if kind := kinds[s[len(s)-1]]; kind != 0 {
		if l := m.piece(s[:len(s)-1]); l != nil {
			return slices.Concat(l, step(kind))
		}
	}
	return nil
}

func (m *model) atom(s string) []api.Rx {
	if b, ok := characters[s]; ok {
		return one(only(string([]byte{b})))
	}
	switch {
	case s == ".":
		return one(dotted)
	case len(s) > 1 && s[0] == '(' && s[len(s)-1] == ')':
		return m.text(s[1 : len(s)-1])
	case len(s) > 1 && s[:2] == "[^" && s[len(s)-1] == ']':
		if all, ok := m.items(s[2 : len(s)-1]); ok {
			return one(all.not())
		}
	case len(s) > 1 && s[0] == '[' && s[len(s)-1] == ']':
		if all, ok := m.items(s[1 : len(s)-1]); ok {
			return one(all)
		}
	}
	return nil
}

// items are the bytes of one or more items.
func (m *model) items(s string) (bytesOf, bool) {
	if all, ok := m.item(s); ok {
		return all, true
	}
	for i := 1; i < len(s); i++ {
		if b, ok := m.item(s[i:]); ok {
			if a, ok := m.items(s[:i]); ok {
				return where(func(i int) bool { return a[i] || b[i] }), true
			}
		}
	}
	return bytesOf{}, false
}

func (m *model) item(s string) (bytesOf, bool) {
	if b, ok := members[s]; ok {
		return only(string([]byte{b})), true
	}
	for i := range len(s) {
		if s[i] != '-' {
			continue
		}
		lo, okLo := members[s[:i]]
		hi, okHi := members[s[i+1:]]
		if okLo && okHi && (m.lax || lo <= hi) {
			return where(func(b int) bool { return b >= int(lo) && b <= int(hi) }), true
		}
	}
	return bytesOf{}, false
}

// ends are such that a text goes on with one of them, and with parentheses, wherever it is broken off. Each stands for
// an end of an atom: of a character, and of a class.
var ends = []string{"", "!", "00", "0", "]", "!]", "00]", "0]"}

// goesOn reports whether the model has a text that begins with s.
func (m *model) goesOn(s string) bool {
	for _, end := range ends {
		for n := range strings.Count(s, "(") + 1 {
			if m.text(s+end+strings.Repeat(")", n)) != nil {
				return true
			}
		}
	}
	return false
}

// misordered reports whether s ends with two members in the wrong order.
func misordered(s string) bool {
	for n := range strings.Count(s, "(") + 1 {
		closed := s + "]" + strings.Repeat(")", n)
		if lax.text(closed) != nil && strict.text(closed) == nil {
			return true
		}
	}
	return false
}

// wrongAt is the index of the byte at which s ceases to be a text, or -1 if it may go on.
func wrongAt(s string) int {
	for i := range len(s) {
		if !lax.goesOn(s[:i+1]) || misordered(s[:i+1]) {
			return i
		}
	}
	return -1
}
