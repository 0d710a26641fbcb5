package esc

import (
	"bytes"
	"math"
	"regexp"
	"slices"
	"strconv"
	"strings"
	"testing"

	"facsimile/api"
)

// The texts that Put writes, and those that end within one, as patterns. The first digits of the escapes are those under
// which there are bytes that are not printed.
const (
	wholeChar = `[ !#-\[\]-~]|\\[ntr"\\]|\\x(?:0[0-8bcef]|1[0-9a-f]|7f|[89a-f][0-9a-f])`
	openChar  = `\\(?:x[0178-9a-f]?)?`
)

var (
	whole = regexp.MustCompile(`^"(?:` + wholeChar + `)*"`)
	open  = regexp.MustCompile(`^"(?:` + wholeChar + `)*(?:` + openChar + `)?$`)
)

// wantTake answers what Take must, by the patterns and by how Go reads quoted strings.
func wantTake(s string, at int) (string, int, api.Errno) {
	if at < 0 || at > len(s) {
		return "", 0, api.ErrRange
	}
	rest := s[at:]
	if !strings.HasPrefix(rest, `"`) {
		return "", 0, api.ErrNone
	}
	if found := whole.FindString(rest); found != "" {
		text, err := strconv.Unquote(found)
		if err != nil {
			panic(found)
		}
		return text, at + len(found), api.OK
	}
	if open.MatchString(rest) {
		return "", 0, api.ErrLong
	}
	return "", 0, api.ErrForm
}

// takes tests Take against wantTake, and Get if at is 0.
func takes(t *testing.T, s string, at int) {
	t.Helper()
	text, end, e := Take(s, at)
	wantText, wantEnd, want := wantTake(s, at)
	if text != wantText || end != wantEnd || e != want {
		t.Errorf("Take(%q, %d) = %q, %d, %d; not %q, %d, %d", s, at, text, end, e, wantText, wantEnd, want)
	}
	if at != 0 {
		return
	}
	if want == api.OK && wantEnd < len(s) {
		wantText, want = "", api.ErrForm
	}
	if text, e := Get(s); text != wantText || e != want {
		t.Errorf("Get(%q) = %q, %d; not %q, %d", s, text, e, wantText, want)
	}
}

// everyByte is the text of all bytes, in order.
func everyByte() string {
	var l []byte
	for b := range 256 {
		l = append(l, byte(b))
	}
	return string(l)
}

// samples are texts of up to two bytes, all of them, and longer ones.
func samples() []string {
	l := []string{""}
	for _, a := range []byte(everyByte()) {
		l = append(l, string([]byte{a}))
		for _, b := range []byte(everyByte()) {
			l = append(l, string([]byte{a, b}))
		}
	}
	return append(l,
		"a\"\n\xc8", `\`, `\\`, `\\\`, `\"`, `"\`, `\n`, `\x41`, `\xc8`, `""`, `"""`, "\u00e9\u20ac\U0001f600", "\ufffd",
		"\x00\x00\x00", "\r\n", strings.Repeat(`\"`, 99), everyByte(), strings.Repeat(everyByte(), 3),
	)
}

func TestP501AnyArguments(t *testing.T) {
	places := []int{math.MinInt, math.MinInt + 1, -1 << 32, -2, -1, 1 << 31, 1 << 32, 1<<32 + 1, math.MaxInt - 1, math.MaxInt}
	for at := range 9 {
		places = append(places, at)
	}
	for _, s := range []string{"", `"`, `""`, `a"b"c`, `"\`, `"\x`, `"\x0`, `"\x00`, "\"\xff\"", `"\"`, `\"\"`} {
		for _, at := range places {
			takes(t, s, at)
			takes(t, s, at)
		}
	}
}

func TestP501Long(t *testing.T) {
	const n = 1 << 18
	long := strings.Repeat("a\x00\"\\", n)
	s := Put(long)
	if size := n*(1+4+2+2) + 2; len(s) != size {
		t.Error("Put has bytes:", len(s), "not", size)
	}
	if text, end, e := Take(s, 0); text != long || end != len(s) || e != api.OK {
		t.Error("Take of a long text:", len(text), end, e)
	}
	if text, e := Get(s[:len(s)-1]); text != "" || e != api.ErrLong {
		t.Error("Get of a long text without its end:", len(text), e)
	}
	if text, e := Get(s + `"`); text != "" || e != api.ErrForm {
		t.Error("Get of a long text and more:", len(text), e)
	}
}

// wantChar answers what Char must, for each byte by itself.
func wantChar(b byte) string {
	switch b {
	case 10:
		return "\\n"
	case 9:
		return "\\t"
	case 13:
		return "\\r"
	case 34:
		return "\\\""
	case 92:
		return "\\\\"
	}
	if b >= 32 && b <= 126 {
		return string([]byte{b})
	}
	s := strconv.FormatInt(int64(b), 16)
	if len(s) < 2 {
		s = "0" + s
	}
	return "\\x" + s
}

func TestP502Char(t *testing.T) {
	for b := range 256 {
		if s := Char(byte(b)); s != wantChar(byte(b)) {
			t.Errorf("Char(%d) = %q", b, s)
		}
	}
	for _, x := range []struct {
		b    byte
		want string
	}{
		{0, `\x00`}, {8, `\x08`}, {9, `\t`}, {10, `\n`}, {11, `\x0b`}, {13, `\r`}, {31, `\x1f`}, {32, " "}, {33, "!"},
		{34, `\"`}, {39, "'"}, {47, "/"}, {92, `\\`}, {96, "`"}, {126, "~"}, {127, `\x7f`}, {128, `\x80`}, {171, `\xab`}, {255, `\xff`},
	} {
		if s := Char(x.b); s != x.want {
			t.Errorf("Char(%d) = %q, not %q", x.b, s, x.want)
		}
	}
}

func TestP502Put(t *testing.T) {
	for _, x := range []struct{ s, want string }{
		{"", `""`},
		{"a\"\n\xc8", `"a\"\n\xc8"`},
		{" a b ", `" a b "`},
		{"A", `"A"`},
		{`\n`, `"\\n"`},
		{`\x41`, `"\\x41"`},
		{`"`, `"\""`},
		{`\`, `"\\"`},
		{"\t\r\n", `"\t\r\n"`},
		{"\x00", `"\x00"`},
		{"\u00e9", `"\xc3\xa9"`},
		{"\x0041", `"\x0041"`},
	} {
		if s := Put(x.s); s != x.want {
			t.Errorf("Put(%q) = %q, not %q", x.s, s, x.want)
		}
	}
	for _, s := range samples() {
		var want bytes.Buffer
		want.WriteByte('"')
		for _, b := range []byte(s) {
			want.WriteString(wantChar(b))
		}
		want.WriteByte('"')
		if got := Put(s); got != want.String() {
			t.Errorf("Put(%q) = %q, not %q", s, got, want.String())
		}
	}
}

func TestP503Take(t *testing.T) {
	for _, x := range []struct {
		s    string
		at   int
		text string
		end  int
		e    api.Errno
	}{
		{`""`, 0, "", 2, api.OK},
		{`"a"`, 0, "a", 3, api.OK},
		{`"a"b"c"`, 0, "a", 3, api.OK},
		{`"a"b"c"`, 2, "b", 5, api.OK},
		{`"a"b"c"`, 4, "c", 7, api.OK},
		{`"a"b"c"`, 6, "", 0, api.ErrLong},
		{`"a"b"c"`, 1, "", 0, api.ErrNone},
		{`"a"b"c"`, 7, "", 0, api.ErrNone},
		{`"a"b"c"`, 8, "", 0, api.ErrRange},
		{`"a"b"c"`, -1, "", 0, api.ErrRange},
		{`x"a\"\n\xc8"y`, 1, "a\"\n\xc8", 12, api.OK},
		{`"\\"\"`, 0, `\`, 4, api.OK},
		{`"\\"\"`, 5, "", 0, api.ErrLong},
		{"", 0, "", 0, api.ErrNone},
		{"", 1, "", 0, api.ErrRange},
		{"a", 0, "", 0, api.ErrNone},
		{"'a'", 0, "", 0, api.ErrNone},
		{`"`, 0, "", 0, api.ErrLong},
		{`"abc`, 0, "", 0, api.ErrLong},
		{`"abc\"`, 0, "", 0, api.ErrLong},
		{`"\x41"`, 0, "", 0, api.ErrForm},
		{`"\x0a"`, 0, "", 0, api.ErrForm},
		{`"\x22"`, 0, "", 0, api.ErrForm},
		{`"\x5c"`, 0, "", 0, api.ErrForm},
		{`"\xC8"`, 0, "", 0, api.ErrForm},
		{`"\Xc8"`, 0, "", 0, api.ErrForm},
		{`"\xc"`, 0, "", 0, api.ErrForm},
		{`"\x"`, 0, "", 0, api.ErrForm},
		{`"\x c8"`, 0, "", 0, api.ErrForm},
		{`"\a"`, 0, "", 0, api.ErrForm},
		{`"\'"`, 0, "", 0, api.ErrForm},
		{`"\0"`, 0, "", 0, api.ErrForm},
		{`"\ "`, 0, "", 0, api.ErrForm},
		{`"\u00e9"`, 0, "", 0, api.ErrForm},
		{"\"\n\"", 0, "", 0, api.ErrForm},
		{"\"\\\n\"", 0, "", 0, api.ErrForm},
		{"\"\x00\"", 0, "", 0, api.ErrForm},
		{"\"\x1f\"", 0, "", 0, api.ErrForm},
		{"\"\x7f\"", 0, "", 0, api.ErrForm},
		{"\"\x80\"", 0, "", 0, api.ErrForm},
		{"\"\u00e9\"", 0, "", 0, api.ErrForm},
	} {
		if text, end, e := Take(x.s, x.at); text != x.text || end != x.end || e != x.e {
			t.Errorf("Take(%q, %d) = %q, %d, %d; not %q, %d, %d", x.s, x.at, text, end, e, x.text, x.end, x.e)
		}
	}
}

// A text that ends within a Char is too short; but if no Char goes on like that, its form is wrong already.
func TestP503Ends(t *testing.T) {
	for _, x := range []struct {
		s string
		e api.Errno
	}{
		{`"\`, api.ErrLong},
		{`"\x`, api.ErrLong},
		{`"\x0`, api.ErrLong},
		{`"\x1`, api.ErrLong},
		{`"\x2`, api.ErrForm},
		{`"\x3`, api.ErrForm},
		{`"\x4`, api.ErrForm},
		{`"\x5`, api.ErrForm},
		{`"\x6`, api.ErrForm},
		{`"\x7`, api.ErrLong},
		{`"\x8`, api.ErrLong},
		{`"\x9`, api.ErrLong},
		{`"\xa`, api.ErrLong},
		{`"\xf`, api.ErrLong},
		{`"\xg`, api.ErrForm},
		{`"\xA`, api.ErrForm},
		{`"\x00`, api.ErrLong},
		{`"\x09`, api.ErrForm},
		{`"\x7e`, api.ErrForm},
		{`"\x7f`, api.ErrLong},
		{`"\xff`, api.ErrLong},
		{`"\n`, api.ErrLong},
		{`"\\`, api.ErrLong},
		{`"\q`, api.ErrForm},
		{"\"\n", api.ErrForm},
		{"\"\xff", api.ErrForm},
		{"\"a\nb", api.ErrForm},
		{`"\x00\`, api.ErrLong},
		{`"\x00\x4`, api.ErrForm},
		{`"\q\`, api.ErrForm},
	} {
		if text, end, e := Take(x.s, 0); text != "" || end != 0 || e != x.e {
			t.Errorf("Take(%q, 0) = %q, %d, %d; not %d", x.s, text, end, e, x.e)
		}
		if text, e := Get(x.s); text != "" || e != x.e {
			t.Errorf("Get(%q) = %q, %d; not %d", x.s, text, e, x.e)
		}
	}
}

func TestP503Get(t *testing.T) {
	for _, x := range []struct {
		s, text string
		e       api.Errno
	}{
		{`""`, "", api.OK},
		{`"a\"\n\xc8"`, "a\"\n\xc8", api.OK},
		{`"\x41"`, "", api.ErrForm},
		{`"a" `, "", api.ErrForm},
		{`"a""b"`, "", api.ErrForm},
		{`"a"x`, "", api.ErrForm},
		{`"a"\`, "", api.ErrForm},
		{"\"\"\n", "", api.ErrForm},
		{`"""`, "", api.ErrForm},
		{`"\q"x`, "", api.ErrForm},
		{"", "", api.ErrNone},
		{"a", "", api.ErrNone},
		{` "a"`, "", api.ErrNone},
		{`\"a"`, "", api.ErrNone},
		{"\xff\"", "", api.ErrNone},
		{`"`, "", api.ErrLong},
		{`"a`, "", api.ErrLong},
		{`"a\"`, "", api.ErrLong},
	} {
		if text, e := Get(x.s); text != x.text || e != x.e {
			t.Errorf("Get(%q) = %q, %d; not %q, %d", x.s, text, e, x.text, x.e)
		}
	}
}

// All bytes, behind nothing and behind a backslash; all pairs of bytes behind \x; each with and without an end.
func TestP503AllChars(t *testing.T) {
	for _, a := range []byte(everyByte()) {
		for _, start := range []string{`"`, `"\`, `"\x`, `"\x0`, `"ab\x7`, `"\\`} {
			s := start + string([]byte{a})
			for _, end := range []string{"", `"`, `x"`, `""`} {
				takes(t, s+end, 0)
			}
		}
		for _, b := range []byte(everyByte()) {
			s := `"\x` + string([]byte{a, b})
			takes(t, s, 0)
			takes(t, s+`"`, 0)
		}
	}
}

// All texts of up to four signs, from each place in them.
func TestP503ShortTexts(t *testing.T) {
	signs := []string{`"`, `\`, "x", "0", "4", "7", "f", "n", "A", " ", "\n", "\x7f", "\xff"}
	texts := []string{""}
	for from := 0; from < len(texts); from++ {
		s := texts[from]
		for at := -1; at <= len(s)+1; at++ {
			takes(t, s, at)
		}
		if len(s) == 4 {
			continue
		}
		for _, sign := range signs {
			texts = append(texts, s+sign)
		}
	}
}

func TestP504RoundTrip(t *testing.T) {
	for _, s := range samples() {
		put := Put(s)
		if text, e := Get(put); text != s || e != api.OK {
			t.Errorf("Get of Put(%q) = %q, %d", s, text, e)
		}
		for _, ahead := range []string{"", "a", `"`, `\`, "\"\xff\n"} {
			for _, behind := range []string{"", "a", `"`, `\`, `\"`, "\xff"} {
				text, end, e := Take(ahead+put+behind, len(ahead))
				if text != s || end != len(ahead)+len(put) || e != api.OK {
					t.Errorf("Take of Put(%q) between %q and %q = %q, %d, %d", s, ahead, behind, text, end, e)
				}
			}
		}
	}
}

// What is accepted is what Put writes: no other text of the same bytes is.
func TestP504OnlyPut(t *testing.T) {
	var parts []string
	for b := range 256 {
		parts = append(parts, string([]byte{byte(b)}), `\`+string([]byte{byte(b)}), strconv.Quote(string(rune(b)))[1:])
		for _, form := range []string{`\x`, `\X`, `\u00`, `\`} {
			parts = append(parts, form+hex(b), form+strings.ToUpper(hex(b)))
		}
	}
	accepted := 0
	for _, part := range parts {
		for _, s := range []string{`"` + part + `"`, `"` + part, `"` + part + `\x00"`, `"a` + part + `"b`} {
			text, end, e := Take(s, 0)
			if e != api.OK {
				continue
			}
			accepted++
			if put := Put(text); s[:end] != put {
				t.Errorf("Take(%q, 0) = %q, but Put of that is %q", s, text, put)
			}
		}
	}
	if accepted < 256 {
		t.Error("too little is accepted:", accepted)
	}
}

// hex returns the two digits of b.
func hex(b int) string {
	s := strconv.FormatInt(int64(b), 16)
	return strings.Repeat("0", 2-len(s)) + s
}

func TestP504Distinct(t *testing.T) {
	var l []string
	for _, s := range samples() {
		l = append(l, Put(s))
	}
	texts := samples()
	slices.Sort(texts)
	slices.Sort(l)
	if many, put := len(slices.Compact(texts)), len(slices.Compact(l)); many != put {
		t.Error("texts:", many, "but quoted strings:", put)
	}
}
