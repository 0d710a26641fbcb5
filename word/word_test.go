package word

import (
	"regexp"
	"slices"
	"strings"
	"testing"

	"facsimile/api"
)

var namePattern = regexp.MustCompile(`^[a-zA-Z_][a-zA-Z0-9_]{0,31}\z`)

// texts are all texts of up to 6 bytes of four, and some longer ones.
func texts() []string {
	l := []string{""}
	for from := 0; len(l[from]) < 6; from++ {
		for _, c := range []string{"a", " ", "\n", "\t"} {
			l = append(l, l[from]+c)
		}
	}
	return append(l,
		"  rule  x",
		"a\n\nb",
		"one\ntwo\n\nfour",
		"one\r\n two \r\n",
		"token word  [a-z]+\n\n# a note\nrule s ~word !s+2 \n",
		"a\u00a0b\u2003c\u3000d\u2028e\u0085f\vg\fh",
		"h\u00e9 \u20ac\n\U0001f600 ",
		"\x00\xff \xfe\x80\n\xc3 \xa9",
		"\xc3\n\xa9",
		"\xe2\x80 \xa8",
		strings.Repeat(" ", 40),
		strings.Repeat("\n", 40),
		strings.Repeat("long", 50)+"\n"+strings.Repeat("\nlonger ", 20),
	)
}

// walkLines is what Lines must return, read byte by byte.
func walkLines(s string) []string {
	var l []string
	line := ""
	for i := range len(s) {
		if s[i] == 10 {
			l = append(l, line)
			line = ""
		} else {
			line += s[i : i+1]
		}
	}
	if line != "" {
		l = append(l, line)
	}
	return l
}

// walkWords is what Words must return, read byte by byte.
func walkWords(s string) []string {
	var l []string
	for i := range len(s) {
		switch {
		case s[i] == 32:
		case i == 0 || s[i-1] == 32:
			l = append(l, s[i:i+1])
		default:
			l[len(l)-1] += s[i : i+1]
		}
	}
	return l
}

// walkCut is what Cut must return, read byte by byte.
func walkCut(s string) (string, string) {
	from := 0
	for from < len(s) && s[from] == 32 {
		from++
	}
	to := from
	for to < len(s) && s[to] != 32 {
		to++
	}
	if to == len(s) {
		return s[from:], ""
	}
	return s[from:to], s[to+1:]
}

// walkTwice is what Twice must return, each element held against each earlier one.
func walkTwice(l []string) int {
	for i := range l {
		for k := range i {
			if l[i] == l[k] {
				return i
			}
		}
	}
	return -1
}

// walkFind is what Find must return, read from the end.
func walkFind(l []string, s string) int {
	found := -1
	for i := len(l) - 1; i >= 0; i-- {
		if l[i] == s {
			found = i
		}
	}
	return found
}

// shortLists are all lists of up to 5 of three texts, and nil.
func shortLists() [][]string {
	l := [][]string{{}}
	for from := 0; len(l[from]) < 5; from++ {
		for _, s := range []string{"", "a", "A"} {
			l = append(l, append(slices.Clone(l[from]), s))
		}
	}
	return append(l, nil)
}

func names(t *testing.T, s string) {
	t.Helper()
	if got, want := Name(s), namePattern.MatchString(s); got != want {
		t.Errorf("Name(%q) = %t", s, got)
	}
}

func TestP601SameAgain(t *testing.T) {
	for _, s := range texts() {
		first, rest := Cut(s)
		again, other := Cut(s)
		if first != again || rest != other || Name(s) != Name(s) || !slices.Equal(Lines(s), Lines(s)) || !slices.Equal(Words(s), Words(s)) {
			t.Errorf("results differ from call to call: %q", s)
		}
	}
	for _, l := range shortLists() {
		if Twice(l) != Twice(l) || Find(l, "a") != Find(l, "a") {
			t.Errorf("results differ from call to call: %q", l)
		}
	}
}

// What a caller does to a result, behind its end too, is not seen in another one.
func TestP601NewMemory(t *testing.T) {
	for _, split := range []func(string) []string{Lines, Words} {
		for _, s := range []string{"a b c\nd e\nf", "a", "a b", "a\nb\nc"} {
			want := slices.Clone(split(s))
			spoilt, kept := split(s), split(s)
			whole := spoilt[:cap(spoilt)]
			for i := range whole {
				whole[i] = "spoilt"
			}
			if !slices.Equal(kept, want) || !slices.Equal(split(s), want) {
				t.Errorf("results of %q share memory", s)
			}
		}
	}
}

// Lists are neither changed nor kept, nor is what is behind their ends.
func TestP601Arguments(t *testing.T) {
	whole := []string{"b", "a", "c", "a", "b", "z"}
	before := slices.Clone(whole)
	for n := range len(whole) + 1 {
		part := whole[:n]
		twice, find := Twice(part), Find(part, "z")
		if !slices.Equal(whole, before) {
			t.Errorf("of %d elements: arguments were changed: %q", n, whole)
		}
		if twice != walkTwice(before[:n]) || find != walkFind(before[:n], "z") {
			t.Errorf("of %d elements: Twice is %d, Find of z is %d", n, twice, find)
		}
	}
	whole[3] = "d"
	if n := Twice(whole); n != 4 {
		t.Error("Twice after a change of the list:", n)
	}
}

func TestP601Long(t *testing.T) {
	const n = 1 << 18
	if Name(strings.Repeat("a", 1<<24)) {
		t.Error("a long text is a name")
	}
	lines := Lines(strings.Repeat("ab\n\n", n) + "c")
	if len(lines) != 2*n+1 || lines[0] != "ab" || lines[2*n-1] != "" || lines[2*n] != "c" {
		t.Error("Lines of a long text:", len(lines))
	}
	words := Words(strings.Repeat("ab  ", n) + "c")
	if len(words) != n+1 || words[n-1] != "ab" || words[n] != "c" {
		t.Error("Words of a long text:", len(words))
	}
	long := strings.Repeat(" ", 1<<24)
	if l := Words(long); len(l) != 0 {
		t.Error("Words of blanks:", len(l))
	}
	if first, rest := Cut(long + "a" + long); first != "a" || rest != long[1:] {
		t.Error("Cut of a long text:", first, len(rest))
	}
	var l []string
	for i := range n {
		l = append(l, strings.Repeat("a", i%7)+string(rune('b'+i/7)))
	}
	if at := Twice(l); at != -1 {
		t.Error("Twice of a long list of different texts:", at)
	}
	if at := Twice(append(l, l[0])); at != n {
		t.Error("Twice of a long list with its first element at its end:", at)
	}
	if at := Find(l, l[n-1]); at != n-1 {
		t.Error("Find in a long list:", at)
	}
}

func TestP602Name(t *testing.T) {
	for s, want := range map[string]bool{
		"":                               false,
		"a":                              true,
		"Z":                              true,
		"_":                              true,
		"0":                              false,
		"9a":                             false,
		"a9":                             true,
		"_9":                             true,
		"__":                             true,
		"aB_0":                           true,
		"rule ":                          false,
		" rule":                          false,
		"a b":                            false,
		"a-b":                            false,
		"a.b":                            false,
		"*":                              false,
		"a\n":                            false,
		"\na":                            false,
		"a\x00":                          false,
		"\x00":                           false,
		"\xff":                           false,
		"a\xff":                          false,
		"a\xc3":                          false,
		"\u00e9":                         false,
		"a\u00e9":                        false,
		"\u0161":                         false, // its lower byte is that of a
		"a\u0130":                        false, // its lower byte is that of 0
		"\u212a":                         false, // the sign of the kelvin, K in lower case is k
		"\u017f":                         false, // the long s
		"a\u0661":                        false, // a digit that is not 0 to 9
		"\uff21":                         false, // a wide A
		"a\ufffd":                        false,
		"\ufeffa":                        false,
		strings.Repeat("a", 31):          true,
		strings.Repeat("a", 32):          true,
		strings.Repeat("a", 33):          false,
		"_" + strings.Repeat("0", 31):    true,
		"_" + strings.Repeat("0", 32):    false,
		"0" + strings.Repeat("a", 31):    false,
		strings.Repeat("a", 31) + "-":    false,
		strings.Repeat("a", 31) + "\xff": false,
		strings.Repeat("\u00e9", 16):     false,
		strings.Repeat("\u00e9", 32):     false,
	} {
		if got := Name(s); got != want {
			t.Errorf("Name(%q) = %t", s, got)
		}
	}
	if api.MaxName != 32 {
		t.Error("MaxName:", api.MaxName)
	}
}

// All bytes alone, first, in the middle and last; all pairs; all lengths.
func TestP602AllBytes(t *testing.T) {
	for a := range 256 {
		one := string([]byte{byte(a)})
		for _, s := range []string{one, one + "a", "a" + one, "a" + one + "b", "_0" + one, strings.Repeat("z", 31) + one, one + strings.Repeat("Z", 31), strings.Repeat("9", 31) + one} {
			names(t, s)
		}
		for b := range 256 {
			names(t, string([]byte{byte(a), byte(b)}))
		}
	}
	for n := range 100 {
		for _, c := range []string{"a", "Z", "_", "7", "\u00e9", " "} {
			names(t, strings.Repeat(c, n))
			names(t, "x"+strings.Repeat(c, n))
		}
	}
}

// All characters, alone and behind a letter: only those of one byte are in names.
func TestP602AllCharacters(t *testing.T) {
	for r := range rune(0x110000) {
		names(t, string(r))
		names(t, "a"+string(r))
	}
}

func TestP602Twice(t *testing.T) {
	for _, x := range []struct {
		l    []string
		want int
	}{
		{nil, -1},
		{[]string{}, -1},
		{[]string{""}, -1},
		{[]string{"", ""}, 1},
		{[]string{"a", "b", "c"}, -1},
		{[]string{"a", "b", "a"}, 2},
		{[]string{"a", "b", "b", "a"}, 2},
		{[]string{"a", "b", "c", "b", "a"}, 3},
		{[]string{"a", "a", "a"}, 1},
		{[]string{"a", "A", "aa", "a "}, -1},
		{[]string{"\xff", "\xfe", "\ufffd"}, -1},
		{[]string{"\xff", "\xfe", "\xff"}, 2},
	} {
		if got := Twice(x.l); got != x.want {
			t.Errorf("Twice(%q) = %d, not %d", x.l, got, x.want)
		}
	}
	for _, l := range shortLists() {
		if got, want := Twice(l), walkTwice(l); got != want {
			t.Errorf("Twice(%q) = %d, not %d", l, got, want)
		}
	}
}

func TestP602Find(t *testing.T) {
	for _, x := range []struct {
		l    []string
		s    string
		want int
	}{
		{nil, "", -1},
		{nil, "a", -1},
		{[]string{}, "", -1},
		{[]string{""}, "", 0},
		{[]string{"a", ""}, "", 1},
		{[]string{"a", "b", "a", "b"}, "a", 0},
		{[]string{"a", "b", "a", "b"}, "b", 1},
		{[]string{"a", "b"}, "c", -1},
		{[]string{"ab", "b"}, "a", -1},
		{[]string{"ab", "b"}, "B", -1},
		{[]string{"a "}, "a", -1},
		{[]string{"\xfe", "\ufffd", "\xff"}, "\xff", 2},
	} {
		if got := Find(x.l, x.s); got != x.want {
			t.Errorf("Find(%q, %q) = %d, not %d", x.l, x.s, got, x.want)
		}
	}
	for _, l := range shortLists() {
		for _, s := range []string{"", "a", "A", "aa"} {
			if got, want := Find(l, s), walkFind(l, s); got != want {
				t.Errorf("Find(%q, %q) = %d, not %d", l, s, got, want)
			}
		}
	}
}

func TestP603Lines(t *testing.T) {
	for _, x := range []struct {
		s    string
		want []string
	}{
		{"", nil},
		{"\n", []string{""}},
		{"\n\n", []string{"", ""}},
		{"a", []string{"a"}},
		{"a\n", []string{"a"}},
		{"a\nb", []string{"a", "b"}},
		{"a\n\nb", []string{"a", "", "b"}},
		{"a\n\nb\n", []string{"a", "", "b"}},
		{"a\nb\n\n", []string{"a", "b", ""}},
		{"\na", []string{"", "a"}},
		{" \n ", []string{" ", " "}},
		{"a\r\nb\r", []string{"a\r", "b\r"}},
		{"a\rb\u2028c\u0085d\ve\f", []string{"a\rb\u2028c\u0085d\ve\f"}},
		{"\xff\n\x00", []string{"\xff", "\x00"}},
	} {
		if got := Lines(x.s); !slices.Equal(got, x.want) {
			t.Errorf("Lines(%q) = %q, not %q", x.s, got, x.want)
		}
	}
	for _, s := range texts() {
		if got, want := Lines(s), walkLines(s); !slices.Equal(got, want) {
			t.Errorf("Lines(%q) = %q, not %q", s, got, want)
		}
	}
}

func TestP604Words(t *testing.T) {
	for _, x := range []struct {
		s    string
		want []string
	}{
		{"", nil},
		{" ", nil},
		{"   ", nil},
		{"a", []string{"a"}},
		{" a ", []string{"a"}},
		{"a b", []string{"a", "b"}},
		{"  rule  x", []string{"rule", "x"}},
		{"a   bc    d ", []string{"a", "bc", "d"}},
		{"a\tb c\nd", []string{"a\tb", "c\nd"}},
		{"\n \t", []string{"\n", "\t"}},
		{"a\u00a0b \u2003", []string{"a\u00a0b", "\u2003"}},
		{"\xff \xa0\x00", []string{"\xff", "\xa0\x00"}},
	} {
		if got := Words(x.s); !slices.Equal(got, x.want) {
			t.Errorf("Words(%q) = %q, not %q", x.s, got, x.want)
		}
	}
	for _, s := range texts() {
		if got, want := Words(s), walkWords(s); !slices.Equal(got, want) {
			t.Errorf("Words(%q) = %q, not %q", s, got, want)
		}
	}
}

func TestP604Cut(t *testing.T) {
	for _, x := range []struct{ s, first, rest string }{
		{"", "", ""},
		{" ", "", ""},
		{"    ", "", ""},
		{"a", "a", ""},
		{"a ", "a", ""},
		{"a  ", "a", " "},
		{"  a", "a", ""},
		{" a ", "a", ""},
		{"a b", "a", "b"},
		{"a b c", "a", "b c"},
		{"a  b", "a", " b"},
		{"  rule  x", "rule", " x"},
		{"g rule s  x ", "g", "rule s  x "},
		{"a\tb\n c", "a\tb\n", "c"},
		{"\n a", "\n", "a"},
		{"\u00a0 a", "\u00a0", "a"},
		{" \xff \xfe", "\xff", "\xfe"},
	} {
		if first, rest := Cut(x.s); first != x.first || rest != x.rest {
			t.Errorf("Cut(%q) = %q, %q; not %q, %q", x.s, first, rest, x.first, x.rest)
		}
	}
	for _, s := range texts() {
		first, rest := Cut(s)
		if wantFirst, wantRest := walkCut(s); first != wantFirst || rest != wantRest {
			t.Errorf("Cut(%q) = %q, %q; not %q, %q", s, first, rest, wantFirst, wantRest)
		}
	}
}

// Cut, again and again, takes the words one after the other.
func TestP604CutWords(t *testing.T) {
	for _, s := range texts() {
		var l []string
		for first, rest := Cut(s); first != ""; first, rest = Cut(rest) {
			l = append(l, first)
		}
		if want := Words(s); !slices.Equal(l, want) {
			t.Errorf("the first words of %q and of its rests are %q, not %q", s, l, want)
		}
	}
}

func TestP605Lines(t *testing.T) {
	for _, s := range texts() {
		want := s
		if s != "" && s[len(s)-1] != 10 {
			want += "\n"
		}
		joined := ""
		for _, line := range Lines(s) {
			if strings.Contains(line, "\n") {
				t.Errorf("Lines(%q) has a line %q", s, line)
			}
			joined += line + "\n"
		}
		if joined != want {
			t.Errorf("the lines of %q are those of %q", s, joined)
		}
	}
}

func TestP605Words(t *testing.T) {
	for _, s := range texts() {
		words := Words(s)
		for _, word := range words {
			if word == "" || strings.Contains(word, " ") {
				t.Errorf("Words(%q) has a word %q", s, word)
			}
		}
		if again := Words(strings.Join(words, " ")); !slices.Equal(again, words) {
			t.Errorf("the words of %q are %q, but joined by blanks they are %q", s, words, again)
		}
		if all := strings.ReplaceAll(s, " ", ""); strings.Join(words, "") != all {
			t.Errorf("the words of %q are not all but its blanks: %q", s, words)
		}
	}
}
