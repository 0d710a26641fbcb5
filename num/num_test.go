package num

import (
	"math"
	"math/big"
	"slices"
	"strconv"
	"strings"
	"testing"

	"facsimile/api"
)

// samples are numbers at and around each power of ten and of two, and the ends of the ints.
func samples() []int {
	l := []int{0, math.MaxInt, math.MaxInt - 1, math.MinInt, math.MinInt + 1}
	for p := 1; p > 0 && p <= math.MaxInt/10; p *= 10 {
		l = append(l, p-1, p, p+1, -p, 9*p)
	}
	for bit := range 63 {
		l = append(l, 1<<bit-1, 1<<bit, -1<<bit)
	}
	return l
}

// digitTexts are texts of digits and of bytes beside the digits, of 0 to 4 bytes.
func digitTexts() []string {
	l := []string{""}
	for from := 0; len(l[from]) < 4; from++ {
		for _, c := range "0159/:-+ xe." {
			l = append(l, l[from]+string(c))
		}
	}
	return l
}

func TestP101Arguments(t *testing.T) {
	backing := []int{7, -2, math.MaxInt, 5, 6, 11}
	before := slices.Clone(backing)
	for _, top := range samples() {
		first := Cap(top, backing[:4]...)
		if again := Cap(top, backing[:4]...); again != first {
			t.Error("Cap differs from call to call:", top, first, again)
		}
	}
	if !slices.Equal(backing, before) {
		t.Error("Cap changed its argument:", backing)
	}
	if Cap(9) != 0 || Cap(9, []int(nil)...) != 0 || Cap(9, []int{}...) != 0 {
		t.Error("no numbers do not add up to 0")
	}
}

func TestP101Returns(t *testing.T) {
	long := strings.Repeat("9", 1<<20)
	for _, most := range samples() {
		if n, e := Read(long, most); n != 0 || e != api.ErrRange {
			t.Error("a long number:", most, n, e)
		}
		if n, e := Read(long+"\xff", most); n != 0 || e != api.ErrForm {
			t.Error("a long text:", most, n, e)
		}
	}
	if b, ok := Unhex(long); b != 0 || ok {
		t.Error("Unhex of a long text:", b, ok)
	}
	many := slices.Repeat([]int{math.MaxInt, math.MinInt, 1}, 1<<16)
	if sum := Cap(math.MaxInt, many...); sum != math.MaxInt {
		t.Error("Cap of many numbers:", sum)
	}
}

func TestP102Show(t *testing.T) {
	for _, n := range samples() {
		want := ""
		if n >= 0 {
			want = strconv.Itoa(n)
		}
		if s := Show(n); s != want {
			t.Errorf("Show(%d) = %q", n, s)
		}
	}
	for n := range 12000 {
		if s := Show(n); s != strconv.Itoa(n) {
			t.Errorf("Show(%d) = %q", n, s)
		}
	}
}

func TestP102ReadExamples(t *testing.T) {
	for _, x := range []struct {
		s       string
		most, n int
		e       api.Errno
	}{
		{"0", 0, 0, api.OK},
		{"0", 9, 0, api.OK},
		{"120", 120, 120, api.OK},
		{"120", 119, 0, api.ErrRange},
		{"9223372036854775807", math.MaxInt, math.MaxInt, api.OK},
		{"9223372036854775807", math.MaxInt - 1, 0, api.ErrRange},
		{"9223372036854775808", math.MaxInt, 0, api.ErrRange},
		{"18446744073709551617", math.MaxInt, 0, api.ErrRange},
		{"92233720368547758070", math.MaxInt, 0, api.ErrRange},
		{"0", -1, 0, api.ErrRange},
		{"9", -1, 0, api.ErrRange},
		{"9", math.MinInt, 0, api.ErrRange},
		{"", 9, 0, api.ErrForm},
		{"", -1, 0, api.ErrForm},
		{"007", 9, 0, api.ErrForm},
		{"00", 9, 0, api.ErrForm},
		{"-1", 9, 0, api.ErrForm},
		{"-0", 9, 0, api.ErrForm},
		{"+1", 9, 0, api.ErrForm},
		{" 1", 9, 0, api.ErrForm},
		{"1 ", 9, 0, api.ErrForm},
		{"1\n", 9, 0, api.ErrForm},
		{"1_0", 99, 0, api.ErrForm},
		{"0x1", 99, 0, api.ErrForm},
		{"1e1", 99, 0, api.ErrForm},
		{"1.0", 99, 0, api.ErrForm},
		{"\u0661", 9, 0, api.ErrForm},
		{"1\x00", 9, 0, api.ErrForm},
		{"99999999999999999999x", 1, 0, api.ErrForm},
		{"01", -1, 0, api.ErrForm},
	} {
		if n, e := Read(x.s, x.most); n != x.n || e != x.e {
			t.Errorf("Read(%q, %d) = %d, %d", x.s, x.most, n, e)
		}
	}
}

// wantRead answers what Read must, by numbers without a limit.
func wantRead(s string, most int) (int, api.Errno) {
	n, ok := new(big.Int).SetString(s, 10)
	if !ok || n.String() != s || n.Sign() < 0 {
		return 0, api.ErrForm
	}
	if n.Cmp(big.NewInt(int64(most))) > 0 {
		return 0, api.ErrRange
	}
	return int(n.Int64()), api.OK
}

func TestP102ReadShortTexts(t *testing.T) {
	for _, s := range digitTexts() {
		for _, most := range []int{math.MinInt, -10, -1, 0, 1, 9, 10, 14, 15, 99, 551, 9999} {
			n, e := Read(s, most)
			if wantN, wantE := wantRead(s, most); n != wantN || e != wantE {
				t.Errorf("Read(%q, %d) = %d, %d", s, most, n, e)
			}
		}
	}
}

func TestP102ReadLimits(t *testing.T) {
	for _, number := range samples() {
		for _, most := range samples() {
			s := strconv.Itoa(number)
			n, e := Read(s, most)
			if wantN, wantE := wantRead(s, most); n != wantN || e != wantE {
				t.Errorf("Read(%q, %d) = %d, %d", s, most, n, e)
			}
		}
	}
}

func TestP103(t *testing.T) {
	for _, x := range []struct {
		top  int
		l    []int
		want int
	}{
		{5, []int{2, -7, 4}, 5},
		{6, []int{2, -7, 4}, 6},
		{7, []int{2, -7, 4}, 6},
		{7, []int{-7}, 0},
		{7, []int{0, 0}, 0},
		{0, []int{3}, 0},
		{-1, nil, 0},
		{-1, []int{3}, 0},
		{-5, []int{-9, 3}, 0},
		{math.MinInt, []int{math.MaxInt, math.MinInt}, 0},
		{9, []int{9, math.MinInt}, 9},
		{9, []int{math.MinInt, 9}, 9},
		{math.MaxInt, []int{math.MaxInt, math.MaxInt}, math.MaxInt},
		{math.MaxInt, []int{math.MaxInt - 1, 1}, math.MaxInt},
		{math.MaxInt, []int{math.MaxInt - 2, 1}, math.MaxInt - 1},
		{math.MaxInt - 1, []int{1, math.MaxInt}, math.MaxInt - 1},
		{math.MaxInt, []int{1 << 62, 1 << 62, 1 << 62, 1 << 62}, math.MaxInt},
	} {
		if sum := Cap(x.top, x.l...); sum != x.want {
			t.Error("Cap:", x.top, x.l, sum)
		}
	}
}

// wantCap answers what Cap must, by numbers without a limit.
func wantCap(top int, l []int) int {
	sum := new(big.Int)
	for _, n := range l {
		if n > 0 {
			sum.Add(sum, big.NewInt(int64(n)))
		}
	}
	if most := big.NewInt(int64(max(top, 0))); sum.Cmp(most) > 0 {
		sum = most
	}
	return int(sum.Int64())
}

func TestP103Pairs(t *testing.T) {
	for _, top := range samples() {
		for _, a := range samples() {
			for _, b := range []int{math.MinInt, -1, 0, 1, 2, a, top, math.MaxInt} {
				if sum := Cap(top, a, b); sum != wantCap(top, []int{a, b}) {
					t.Error("Cap:", top, a, b, sum)
				}
			}
		}
	}
}

func TestP104(t *testing.T) {
	const digits = "0123456789abcdef"
	for n := range 256 {
		want := digits[n/16:n/16+1] + digits[n%16:n%16+1]
		if s := Hex(byte(n)); s != want {
			t.Errorf("Hex(%d) = %q", n, s)
		}
		if b, ok := Unhex(want); b != byte(n) || !ok {
			t.Errorf("Unhex(%q) = %d, %t", want, b, ok)
		}
	}
	if Hex(171) != "ab" {
		t.Error("Hex(171)")
	}
}

func TestP104NoHex(t *testing.T) {
	found := 0
	for high := range 256 {
		for low := range 256 {
			s := string([]byte{byte(high), byte(low)})
			b, ok := Unhex(s)
			if ok && Hex(b) != s || !ok && b != 0 {
				t.Errorf("Unhex(%q) = %d, %t", s, b, ok)
			}
			if ok {
				found++
			}
		}
	}
	if found != 256 {
		t.Error("texts of two digits:", found)
	}
	for _, s := range []string{"", "0", "f", "000", "0ab", "ab0", "ab ", "AB", "Ab", "0x", "-1", "+f", "\u00e9", "g0", "0g"} {
		if b, ok := Unhex(s); b != 0 || ok {
			t.Errorf("Unhex(%q) = %d, %t", s, b, ok)
		}
	}
}

func TestP105(t *testing.T) {
	for _, n := range samples() {
		if n < 0 {
			continue
		}
		for _, most := range []int{n, math.MaxInt} {
			if back, e := Read(Show(n), most); back != n || e != api.OK {
				t.Error("Read of Show:", n, most, back, e)
			}
		}
	}
	for _, s := range digitTexts() {
		if n, e := Read(s, math.MaxInt); e == api.OK && Show(n) != s {
			t.Errorf("Show of Read of %q is %q", s, Show(n))
		}
	}
}

// eachOrder calls see with every order of l.
func eachOrder(l []int, at int, see func([]int)) {
	if at == len(l) {
		see(l)
		return
	}
	for i := at; i < len(l); i++ {
		l[at], l[i] = l[i], l[at]
		eachOrder(l, at+1, see)
		l[at], l[i] = l[i], l[at]
	}
}

func TestP106(t *testing.T) {
	tops := []int{math.MinInt, -1, 0, 1, 6, 7, 8, 20, 1 << 62, math.MaxInt - 1, math.MaxInt}
	for _, l := range [][]int{
		{3, -9, 4, 0, 1},
		{math.MaxInt, 1, math.MinInt, 2, -1},
		{1 << 62, 1<<62 - 1, 5, -5, 1},
	} {
		for _, top := range tops {
			want := wantCap(top, l)
			eachOrder(slices.Clone(l), 0, func(order []int) {
				if sum := Cap(top, order...); sum != want {
					t.Error("Cap depends on the order:", top, order, sum)
				}
				for cut := range len(order) + 1 {
					sum := Cap(top, Cap(top, order[:cut]...), Cap(top, order[cut:]...))
					if sum != want {
						t.Error("Cap of Caps:", top, order, cut, sum)
					}
				}
			})
		}
	}
}
