package rxtext

import (
	"slices"
	"strings"
	"testing"

	"facsimile/api"
	"facsimile/rx"
)

// reads holds what Read answers for s against l, at and e.
func reads(t *testing.T, s string, l []api.Rx, at int, e api.Errno) {
	t.Helper()
	gotL, gotAt, gotE := Read(s)
	if !slices.Equal(gotL, l) || gotAt != at || gotE != e {
		t.Errorf("Read of %.60q (%d bytes): %d steps, %d, error %d; not %d steps, %d, error %d", s, len(s), len(gotL), gotAt, gotE, len(l), at, e)
	}
}

// readsAsModel holds what Read answers for s, at most 512 steps, against the model; wrong is what wrongAt tells of s.
func readsAsModel(t *testing.T, s string, wrong int) {
	t.Helper()
	switch l := strict.text(s); {
	case wrong >= 0:
		reads(t, s, nil, wrong, api.ErrForm)
	case l == nil:
		reads(t, s, nil, len(s), api.ErrForm)
	default:
		reads(t, s, l, len(s), api.OK)
	}
}

// eachText calls see with each text of up to n of the signs behind s that is one byte behind a text that may go on, and
// with the index of the byte that is wrong, or -1.
func eachText(s, alphabet string, n int, see func(s string, wrong int)) {
	for i := range len(alphabet) {
		longer := s + alphabet[i:i+1]
		wrong := -1
		if !lax.goesOn(longer) || misordered(longer) {
			wrong = len(s)
		}
		see(longer, wrong)
		if wrong < 0 && n > 1 {
			eachText(longer, alphabet, n-1, see)
		}
	}
}

// alphabets are the signs of short texts, and how many of them a text has.
var alphabets = []struct {
	signs string
	n     int
}{
	{`a(|)*`, 6},
	{`ab()|*+?.[]^-\x4n! `, 3},
	{`[]^-ab\`, 5},
	{`[-\x4b`, 6},
	{`\x04afg`, 5},
	{`([a|])*`, 5},
}

// A text that ends within a class, an escape or parentheses goes on as each text that begins with it does.
func TestP802ModelGoesOn(t *testing.T) {
	for _, s := range []string{"", "a", "(", "((", "a|", `\`, `\x`, `\x4`, "[", "[^", "[a", "[^a-", `[\`, `[\x`, `[\x4`, `[a-\x4`, `([b-\`, "((a)"} {
		if at := wrongAt(s); at >= 0 {
			t.Errorf("%q does not go on at %d", s, at)
		}
	}
	for s, want := range map[string]int{")": 0, "a)": 1, "*": 0, "(*": 1, `\y`: 1, "[]": 1, "[b-a": 3, `[b-\x41]`: 6, `([b-\n`: 5} {
		if at := wrongAt(s); at != want {
			t.Errorf("%q is wrong at %d, not %d", s, at, want)
		}
	}
}

func TestP802Examples(t *testing.T) {
	set := func(s string) []api.Rx { return one(only(s)) }
	a, b, c := set("a"), set("b"), set("c")
	empty, cat, alt, star := step(api.RxEmpty), step(api.RxCat), step(api.RxAlt), step(api.RxStar)
	for _, x := range []struct {
		s string
		l [][]api.Rx
	}{
		{"", [][]api.Rx{empty}},
		{"()", [][]api.Rx{empty}},
		{"(())", [][]api.Rx{empty}},
		{"|", [][]api.Rx{empty, empty, alt}},
		{"||", [][]api.Rx{empty, empty, alt, empty, alt}},
		{"(|)", [][]api.Rx{empty, empty, alt}},
		{"a", [][]api.Rx{a}},
		{"(a)", [][]api.Rx{a}},
		{"((a))*", [][]api.Rx{a, star}},
		{"a()", [][]api.Rx{a, empty, cat}},
		{"()a", [][]api.Rx{empty, a, cat}},
		{"()*", [][]api.Rx{empty, star}},
		{"abc", [][]api.Rx{a, b, cat, c, cat}},
		{"a(bc)", [][]api.Rx{a, b, c, cat, cat}},
		{"a|b|c", [][]api.Rx{a, b, alt, c, alt}},
		{"a|(b|c)", [][]api.Rx{a, b, c, alt, alt}},
		{"ab|c", [][]api.Rx{a, b, cat, c, alt}},
		{"a|bc", [][]api.Rx{a, b, c, cat, alt}},
		{"ab*", [][]api.Rx{a, b, star, cat}},
		{"(ab)*", [][]api.Rx{a, b, cat, star}},
		{"a*b", [][]api.Rx{a, star, b, cat}},
		{"a*+?", [][]api.Rx{a, star, step(api.RxPlus), step(api.RxOpt)}},
		{"a(b|c)*", [][]api.Rx{a, b, c, alt, star, cat}},
		{"a**|", [][]api.Rx{a, star, star, empty, alt}},
		{".", [][]api.Rx{one(dotted)}},
		{"[.]", [][]api.Rx{set(".")}},
		{"[(|)*+?]", [][]api.Rx{set("(|)*+?")}},
		{"^-", [][]api.Rx{set("^"), set("-"), cat}},
		{"[a-c]", [][]api.Rx{set("abc")}},
		{"[a-ac]", [][]api.Rx{set("ac")}},
		{"[a-cb-e]", [][]api.Rx{set("abcde")}},
		{"[cab]", [][]api.Rx{set("abc")}},
		{"[aa]", [][]api.Rx{a}},
		{`[\n-\r]`, [][]api.Rx{set("\n\v\f\r")}},
		{`[+-\-]`, [][]api.Rx{set("+,-")}},
		{`[\^a]`, [][]api.Rx{set("^a")}},
		{`[^\^a]`, [][]api.Rx{one(only("^a").not())}},
		{`[^\x00-\xff]`, [][]api.Rx{one(bytesOf{})}},
		{`[\x00-\xff]`, [][]api.Rx{one(bytesOf{}.not())}},
		{`\n\t`, [][]api.Rx{set("\n"), set("\t"), cat}},
		{`\r`, [][]api.Rx{set("\r")}},
		{`\x0a`, [][]api.Rx{set("\n")}},
		{`\x61`, [][]api.Rx{a}},
		{`\xff`, [][]api.Rx{set("\xff")}},
		{`\\`, [][]api.Rx{set(`\`)}},
		{`\~\!`, [][]api.Rx{set("~"), set("!"), cat}},
	} {
		reads(t, x.s, slices.Concat(x.l...), len(x.s), api.OK)
	}
}

func TestP802WrongExamples(t *testing.T) {
	for _, x := range []struct {
		s  string
		at int
	}{
		{"*", 0}, {"+", 0}, {"?", 0}, {"|*", 1}, {"a|*", 2}, {"(*", 1}, {"a(?)", 2}, {"a*|+a", 3},
		{")", 0}, {"a)", 1}, {"(a))", 3}, {"|)", 1}, {"())(", 2},
		{"]", 0}, {"a]", 1}, {"[a]]", 3},
		{" ", 0}, {"a b", 1}, {"a\n", 1}, {"\x7f", 0}, {"a\xc3\xa9", 1}, {"a\x00", 1},
		{"(", 1}, {"(a", 2}, {"((a)", 4}, {"a|(", 3}, {"(a|", 3}, {"(a*", 3},
		{"[", 1}, {"[^", 2}, {"[a", 2}, {"[a-", 3}, {"[a-c", 4}, {"a[^bc", 5},
		{"[]", 1}, {"[]a]", 1}, {"[^]", 2}, {"[^]a]", 2}, {"[^^]", 2}, {"[a^]", 2}, {"[[]", 1}, {"[a[]", 2},
		{"[-]", 1}, {"[-a]", 1}, {"[a-]", 3}, {"[a--]", 3}, {"[a-c-e]", 4}, {"[a-^]", 3}, {"[^-a]", 2}, {"[+--]", 3},
		{"[a b]", 2}, {"[a-\n]", 3}, {"[\x7f]", 1}, {"[\xc3\xa9]", 1},
		{`\`, 1}, {`a\`, 2}, {`\a`, 1}, {`\0`, 1}, {`\N`, 1}, {`\Z`, 1}, {`\ `, 1}, {"\\\n", 1}, {"\\\x7f", 1}, {"\\\xff", 1},
		{`\x`, 2}, {`\x4`, 3}, {`\xg`, 2}, {`\xg0`, 2}, {`\x0g`, 3}, {`\xA0`, 2}, {`\x0A`, 3}, {`\x0)`, 3}, {`\X00`, 1}, {`\x-1`, 2},
		{`[\`, 2}, {`[\]`, 3}, {`[\a]`, 2}, {`[\x]`, 3}, {`[\x4]`, 4}, {`[\x4g]`, 4}, {`[\x`, 3}, {`[\x4`, 4}, {`[a\ ]`, 3},
		{"[b-a]", 3}, {"[b-a", 3}, {"[^b-a]", 4}, {"x[b-a", 4}, {"[a-bc-b]", 6}, {"([b-a", 4},
		{`[b-\x4`, 6}, {`[b-\x41`, 6}, {`[b-\x41]`, 6}, {`[b-\x4g`, 6}, {`[b-\x4]`, 6}, {`[b-\x`, 5}, {`[b-\`, 4}, {`[b-`, 3},
		{`[b-\n]`, 4}, {`[b-\!]`, 4}, {`[b-\a]`, 4}, {`[\xff-\x00]`, 9}, {`[\xff-\x0`, 9}, {`[\xff-\xfe`, 9}, {`[\xff-~`, 6}, {`[\t-\x08]`, 7},
		{"[b-a)", 3}, {"a|[b-a]*", 5},
	} {
		reads(t, x.s, nil, x.at, api.ErrForm)
	}
}

func TestP802ShortTexts(t *testing.T) {
	n := 0
	readsAsModel(t, "", -1)
	for _, x := range alphabets {
		eachText("", x.signs, x.n, func(s string, wrong int) {
			n++
			readsAsModel(t, s, wrong)
			if wrong < 0 {
				return
			}
			// What stands behind the wrong byte does not count.
			for _, tail := range []string{"a", ")", "]", "*", `\`, "\xff"} {
				reads(t, s+tail, nil, wrong, api.ErrForm)
			}
		})
	}
	if n < 60000 {
		t.Error("texts:", n)
	}
}

// Each byte at each kind of place, and each pair of bytes as the digits of an escape.
func TestP802Bytes(t *testing.T) {
	for _, s := range []string{
		"", "a", "a*", "a|", "(", "(a", "()", `\`, `\x`, `\x4`, "[", "[^", "[a", "[^a", "[a-", "[a-b", `[\`, `[\x`, `[\x4`,
		`[b-\`, `[b-\x`, `[b-\x4`, `[b-\x6`, `[\x80-`, `[\x80-\x7`, "[a]", ".",
	} {
		for b := range 256 {
			longer := s + string([]byte{byte(b)})
			wrong := wrongAt(longer)
			readsAsModel(t, longer, wrong)
			if s != "" && s[0] == '[' && wrong < 0 {
				readsAsModel(t, longer+"]", wrongAt(longer+"]"))
			}
		}
	}
	for pair := range 1 << 16 {
		s := `\x` + string([]byte{byte(pair >> 8), byte(pair)})
		want, ok := characters[s]
		l, at, e := Read(s)
		if ok != (e == api.OK) || ok && !slices.Equal(l, one(only(string([]byte{want})))) || !ok && (at < 2 || at > 3) {
			t.Errorf("Read of %q: %v, %d, error %d", s, l, at, e)
		}
	}
}

// All pairs of bytes as the ends of an item, in all forms.
func TestP802Items(t *testing.T) {
	for first, lo := range members {
		for last, hi := range members {
			s := "[" + first + "-" + last + "]"
			l, at, e := Read(s)
			if lo > hi {
				if len(l) != 0 || at != len(s)-2 || e != api.ErrForm {
					t.Fatalf("Read of %q: %v, %d, error %d", s, l, at, e)
				}
				continue
			}
			want := api.Set{}
			for b := int(lo); b <= int(hi); b++ {
				want[b/64] |= 1 << (b % 64)
			}
			if e != api.OK || at != len(s) || len(l) != 1 || l[0] != (api.Rx{Kind: api.RxSet, Set: want}) {
				t.Fatalf("Read of %q: %v, %d, error %d", s, l, at, e)
			}
		}
	}
}

// measured is a text, and what Read answers for it: how many steps, where, and the error.
type measured struct {
	s  string
	n  int
	at int
	e  api.Errno
}

// measures holds what Read answers against each of the texts; what it reads is an expression.
func measures(t *testing.T, texts []measured) {
	t.Helper()
	for _, x := range texts {
		l, at, e := Read(x.s)
		if len(l) != x.n || at != x.at || e != x.e {
			t.Errorf("Read of %.20q (%d bytes): %d steps, %d, error %d; not %d, %d, %d", x.s, len(x.s), len(l), at, e, x.n, x.at, x.e)
		}
		if e == api.OK && rx.Check(l) != api.OK {
			t.Errorf("Read of %.20q (%d bytes) is no expression", x.s, len(x.s))
		}
	}
}

func TestP802Most(t *testing.T) {
	if Most != 4096 {
		t.Error("Most:", Most)
	}
	line := strings.Repeat
	measures(t, []measured{
		{"[" + line("a", 4094) + "]", 1, 4096, api.OK},
		{"[" + line("a", 4095) + "]", 0, 0, api.ErrLong},
		{"[" + line("a", 4095), 0, 4096, api.ErrForm},
		{"[" + line("a", 4096), 0, 0, api.ErrLong},
		{line("*", 4096), 0, 0, api.ErrForm},
		{line("*", 4097), 0, 0, api.ErrLong},
		{line("*", 1<<20), 0, 0, api.ErrLong},
		{line("(", 2048) + line(")", 2048), 1, 4096, api.OK},
		{line("(", 2047) + "a" + line(")", 2047) + "*", 2, 4096, api.OK},
		{line("(", 4096), 0, 4096, api.ErrForm},
		{line("(", 4095) + ")", 0, 4096, api.ErrForm},
		{line("(", 2048) + line(")", 2047) + "*", 0, 4096, api.ErrForm},
		{line("(", 2047) + line(")", 2048) + "*", 0, 4094, api.ErrForm},
		{line("a(", 2048), 0, 4096, api.ErrForm},
		{line("|(", 2048), 0, 4096, api.ErrForm},
		{line("|a(", 1365), 0, 4095, api.ErrForm},
		{line("a|a(", 1024), 0, 4096, api.ErrForm},
		{line("a", 4095) + `\`, 0, 4096, api.ErrForm},
	})
}

// The number of steps counts only if the text is one.
func TestP802MaxRx(t *testing.T) {
	line := strings.Repeat
	measures(t, []measured{
		{line("a", 256), 511, 256, api.OK},
		{line("a", 256) + "*", 512, 257, api.OK},
		{line("a", 256) + "**", 0, 0, api.ErrLong},
		{line("a", 257), 0, 0, api.ErrLong},
		{line("|", 255), 511, 255, api.OK},
		{line("|", 255) + "()?", 512, 258, api.OK},
		{line("|", 256), 0, 0, api.ErrLong},
		{"a" + line("*", 511), 512, 512, api.OK},
		{"a" + line("*", 512), 0, 0, api.ErrLong},
		{"a" + line("+", 4095), 0, 0, api.ErrLong},
		{line("a|", 2048), 0, 0, api.ErrLong},
		{line("a", 4096), 0, 0, api.ErrLong},
		{line("a", 4095) + ")", 0, 4095, api.ErrForm},
		{line("a", 4095) + "(", 0, 4096, api.ErrForm},
		{line("a", 4094) + "[]", 0, 4095, api.ErrForm},
		{line("a", 300) + " " + line("a", 300), 0, 300, api.ErrForm},
		{line("(a", 256) + line(")", 256), 511, 768, api.OK},
		{line("(a|", 255) + "b" + line(")", 255) + "?", 512, 1022, api.OK},
		{line("(a|", 256) + "b" + line(")", 256), 0, 0, api.ErrLong},
		{line("a(", 600) + line(")", 600), 0, 0, api.ErrLong},
		{line("a(", 600) + line(")", 601), 0, 1800, api.ErrForm},
		{line("a(", 600) + line(")", 599), 0, 1799, api.ErrForm},
	})
}

// A result is new: a change of it, and of what is behind it, changes no other one.
func TestP801Results(t *testing.T) {
	for _, s := range []string{"", "a", "a(b|c)*", "[a-z].|x?", strings.Repeat("a", 256)} {
		first, _, _ := Read(s)
		kept := slices.Clone(first)
		second, _, _ := Read(s)
		whole := first[:cap(first)]
		for i := range whole {
			whole[i] = api.Rx{Kind: 99, Set: api.Set{1}}
		}
		third, at, e := Read(s)
		if !slices.Equal(second, kept) || !slices.Equal(third, kept) || at != len(s) || e != api.OK {
			t.Errorf("Read of %q, after a change of its result: %v, %v", s, second, third)
		}
	}
}

// What was read before makes no difference, whether it was read to its end or not.
func TestP801Repeated(t *testing.T) {
	for _, s := range []string{"(a|b", "[a", "a|(b", "", "a*b", ")", "[b-a]", strings.Repeat("a", 300), strings.Repeat("(", 4097)} {
		l, at, e := Read(s)
		for range 3 {
			Read("((a|b(c")
			reads(t, s, l, at, e)
		}
	}
}
