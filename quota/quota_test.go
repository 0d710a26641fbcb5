package quota

import (
	"math"
	"slices"
	"strings"
	"testing"

	"facsimile/api"
)

// made returns a new Out of that room; the test ends if there is none.
func made(t *testing.T, room int) *Out {
	t.Helper()
	o, e := New(room)
	if e != api.OK || o == nil {
		t.Fatal("New:", room, o, e)
	}
	return o
}

// holds tests all that is asked of an Out of that room with those bytes.
func holds(t *testing.T, o *Out, room int, text string) {
	t.Helper()
	if o.Text() != text || o.Len() != len(text) || o.Left() != room-len(text) {
		t.Fatalf("text %q, %d bytes, %d left; not %q of %d", o.Text(), o.Len(), o.Left(), text, room)
	}
	last, ok := o.Last()
	if ok != (text != "") || ok && last != text[len(text)-1] || !ok && last != 0 {
		t.Fatalf("last %d, %v of %q", last, ok, text)
	}
}

// plain is what an Out is: a text, and how long it may be.
type plain struct {
	text string
	room int
}

func (p *plain) put(l []string) api.Errno {
	text := p.text + strings.Join(l, "")
	if len(text) > p.room {
		return api.ErrFull
	}
	p.text = text
	return api.OK
}

func (p *plain) pad(n int, c byte) api.Errno {
	if n < 0 {
		return api.ErrRange
	}
	if n > p.room-len(p.text) {
		return api.ErrFull
	}
	for range n {
		p.text += string([]byte{c})
	}
	return api.OK
}

func (p *plain) cut(n int) api.Errno {
	if n < 0 || n > len(p.text) {
		return api.ErrRange
	}
	p.text = p.text[:n]
	return api.OK
}

// act is one operation, on an Out and on what it is held against.
type act struct {
	name string
	out  func(o *Out) api.Errno
	ours func(p *plain) api.Errno
}

func putting(l ...string) act {
	return act{
		name: "put " + strings.Join(l, "|"),
		out:  func(o *Out) api.Errno { return o.Put(l...) },
		ours: func(p *plain) api.Errno { return p.put(l) },
	}
}

func padding(n int, c byte) act {
	return act{
		name: "pad",
		out:  func(o *Out) api.Errno { return o.Pad(n, c) },
		ours: func(p *plain) api.Errno { return p.pad(n, c) },
	}
}

func cutting(n int) act {
	return act{
		name: "cut",
		out:  func(o *Out) api.Errno { return o.Cut(n) },
		ours: func(p *plain) api.Errno { return p.cut(n) },
	}
}

// acts are operations of all kinds, those that no Out takes among them.
func acts() []act {
	l := []act{
		putting(), putting(""), putting("", ""), putting("a"), putting("bc"), putting("d", "", "e"),
		putting("fgh", "i"), putting("\x00\xff\n"), putting("toolong", "x"), putting("x", "toolong"),
	}
	for _, n := range []int{math.MinInt, -1, 0, 1, 2, 3, 4, 5, Most, Most + 1, math.MaxInt} {
		l = append(l, padding(n, 'p'), cutting(n))
	}
	return append(l, padding(1, 0), padding(2, 0xff))
}

func TestP401NilOut(t *testing.T) {
	var o *Out
	for _, l := range [][]string{nil, {}, {""}, {"a", "b"}} {
		if e := o.Put(l...); e != api.ErrState {
			t.Error("Put:", l, e)
		}
	}
	for _, n := range []int{math.MinInt, -1, 0, 1, Most + 1, math.MaxInt} {
		if e := o.Pad(n, 'a'); e != api.ErrState {
			t.Error("Pad:", n, e)
		}
		if e := o.Cut(n); e != api.ErrState {
			t.Error("Cut:", n, e)
		}
	}
	if o.Len() != 0 || o.Left() != 0 || o.Text() != "" {
		t.Error("a nil Out has something:", o.Len(), o.Left(), o.Text())
	}
	if c, ok := o.Last(); c != 0 || ok {
		t.Error("Last:", c, ok)
	}
}

func TestP401Arguments(t *testing.T) {
	back := []string{"a", "b", "spare", "more"}
	l := back[:2]
	o := made(t, 10)
	o.Put(l...)
	if !slices.Equal(back, []string{"a", "b", "spare", "more"}) {
		t.Error("Put changed its texts:", back)
	}
	l[0], l[1] = "other", "texts"
	holds(t, o, 10, "ab")
}

func TestP401Apart(t *testing.T) {
	one, other := made(t, 8), made(t, 8)
	one.Put("abcd")
	other.Put("xy")
	text := one.Text()
	one.Cut(1)
	one.Put("zzz")
	if text != "abcd" {
		t.Error("a text changed with its Out:", text)
	}
	holds(t, one, 8, "azzz")
	holds(t, other, 8, "xy")
}

func TestP402Example(t *testing.T) {
	o := made(t, 5)
	if e := o.Put("ab", "cd"); e != api.OK {
		t.Error("Put of ab and cd:", e)
	}
	if e := o.Put("ef"); e != api.ErrFull {
		t.Error("Put of ef:", e)
	}
	if e := o.Pad(1, 120); e != api.OK {
		t.Error("Pad:", e)
	}
	holds(t, o, 5, "abcdx")
}

func TestP402New(t *testing.T) {
	if Most != 1<<30 {
		t.Error("Most:", Most)
	}
	for _, room := range []int{0, 1, 2, 5, 1 << 16, Most - 1, Most} {
		holds(t, made(t, room), room, "")
	}
	for _, room := range []int{math.MinInt, -Most, -1, Most + 1, 1 << 32, 1<<32 + 1, math.MaxInt} {
		if o, e := New(room); o != nil || e != api.ErrRange {
			t.Error("New:", room, o, e)
		}
	}
}

func TestP402NoRoom(t *testing.T) {
	o := made(t, 0)
	for _, e := range []api.Errno{o.Put(), o.Put(""), o.Put("", "", ""), o.Pad(0, 'a'), o.Cut(0)} {
		if e != api.OK {
			t.Error("what adds nothing is refused:", e)
		}
	}
	for _, e := range []api.Errno{o.Put("a"), o.Put("", "a"), o.Pad(1, 'a'), o.Pad(math.MaxInt, 'a')} {
		if e != api.ErrFull {
			t.Error("no room, but:", e)
		}
	}
	for _, e := range []api.Errno{o.Pad(-1, 'a'), o.Pad(math.MinInt, 'a'), o.Cut(1), o.Cut(-1)} {
		if e != api.ErrRange {
			t.Error("out of range, but:", e)
		}
	}
	holds(t, o, 0, "")
}

func TestP402Bytes(t *testing.T) {
	o := made(t, 2*256)
	var text []byte
	for c := range 256 {
		text = append(text, byte(c), byte(c))
		if c%2 == 0 {
			o.Pad(2, byte(c))
		} else {
			o.Put(string([]byte{byte(c)}), string([]byte{byte(c)}))
		}
		holds(t, o, 2*256, string(text))
	}
	for n := len(text); n >= 0; n-- {
		if e := o.Cut(n); e != api.OK {
			t.Fatal("Cut:", n, e)
		}
		holds(t, o, 2*256, string(text[:n]))
	}
}

func TestP402PadAfterCut(t *testing.T) {
	o := made(t, 10)
	o.Put("abcdefghij")
	o.Cut(3)
	o.Pad(4, '-')
	holds(t, o, 10, "abc----")
	o.Cut(0)
	o.Put("k")
	holds(t, o, 10, "k")
}

func TestP402MostRoom(t *testing.T) {
	o := made(t, Most)
	for _, n := range []int{Most + 1, 1 << 31, 1 << 32, 1<<32 + 1, math.MaxInt} {
		if e := o.Pad(n, 'm'); e != api.ErrFull {
			t.Error("Pad:", n, e)
		}
	}
	holds(t, o, Most, "")
	o.Put("m")
	if e := o.Pad(Most, 'm'); e != api.ErrFull {
		t.Error("Pad of more than what is left:", e)
	}
	holds(t, o, Most, "m")
}

func TestP402LongText(t *testing.T) {
	const room = 1 << 24
	o := made(t, room)
	if e := o.Pad(room-2, 'm'); e != api.OK {
		t.Error("Pad:", e)
	}
	if e := o.Put("no", "p"); e != api.ErrFull {
		t.Error("Put:", e)
	}
	if e := o.Put("n", "o"); e != api.OK {
		t.Error("Put:", e)
	}
	holds(t, o, room, strings.Repeat("m", room-2)+"no")
	if e := o.Put("p"); e != api.ErrFull {
		t.Error("Put:", e)
	}
	if e := o.Pad(1, 'p'); e != api.ErrFull {
		t.Error("Pad:", e)
	}
	if e := o.Cut(2); e != api.OK {
		t.Error("Cut:", e)
	}
	holds(t, o, room, "mm")
}

// Sizes that sum up beyond 32 bits, and to little if only the lowest bits are looked at.
func TestP402HugeSum(t *testing.T) {
	long := strings.Repeat("x", 1<<20)
	l := slices.Repeat([]string{long}, 1<<12)
	o := made(t, 1<<21)
	o.Put("a")
	for _, n := range []int{2, 3, 1 << 11, 1 << 12} {
		if e := o.Put(l[:n]...); e != api.ErrFull {
			t.Error("Put of many:", n, e)
		}
		holds(t, o, 1<<21, "a")
	}
}

func TestP402AndP403AllActs(t *testing.T) {
	all := acts()
	for _, room := range []int{0, 1, 2, 3, 5, 8} {
		for _, a := range all {
			for _, b := range all {
				for _, c := range all {
					follow(t, room, a, b, c)
				}
			}
		}
	}
}

// follow does the acts l on a new Out, and holds it against a plain text after each.
func follow(t *testing.T, room int, l ...act) {
	t.Helper()
	o, p := made(t, room), &plain{room: room}
	for _, a := range l {
		before := p.text
		got, want := a.out(o), a.ours(p)
		if got != want {
			t.Fatalf("room %d: %s behind %q: %d, not %d", room, a.name, before, got, want)
		}
		holds(t, o, room, p.text)
	}
}

func TestP403Refusal(t *testing.T) {
	o := made(t, 6)
	o.Put("abcd")
	for _, e := range []api.Errno{
		o.Put("e", "f", "g"), o.Put("efg"), o.Put("", "efg", ""), o.Put("efg", ""), o.Pad(3, 'x'), o.Pad(math.MaxInt, 'x'),
	} {
		if e != api.ErrFull {
			t.Error("no room, but:", e)
		}
		holds(t, o, 6, "abcd")
	}
	for _, e := range []api.Errno{o.Pad(-1, 'x'), o.Cut(5), o.Cut(-1), o.Cut(6), o.Cut(math.MaxInt), o.Cut(math.MinInt)} {
		if e != api.ErrRange {
			t.Error("out of range, but:", e)
		}
		holds(t, o, 6, "abcd")
	}
	if e := o.Put("e", "f"); e != api.OK {
		t.Error("Put:", e)
	}
	holds(t, o, 6, "abcdef")
}

func TestP404Splitting(t *testing.T) {
	words := []string{"", "a", "bc", "\x00", "def"}
	var lists [][]string
	for _, a := range words {
		for _, b := range words {
			for _, c := range words {
				lists = append(lists, []string{a, b, c})
			}
		}
	}
	for _, l := range lists {
		whole := strings.Join(l, "")
		for room := range 12 {
			together, single := made(t, room), made(t, room)
			e := together.Put(l...)
			if len(whole) > room {
				if e != api.ErrFull {
					t.Errorf("Put of %q: room %d, but %d", l, room, e)
				}
				holds(t, together, room, "")
				continue
			}
			for _, s := range l {
				if e := single.Put(s); e != api.OK {
					t.Errorf("Put of %q of %q: room %d, but %d", s, l, room, e)
				}
			}
			if e != api.OK {
				t.Errorf("Put of %q: room %d, but %d", l, room, e)
			}
			holds(t, together, room, whole)
			holds(t, single, room, whole)
		}
	}
}

func TestP404ManyTexts(t *testing.T) {
	l := slices.Repeat([]string{"ab", "", "c"}, 1<<14)
	whole := strings.Join(l, "")
	together, single := made(t, len(whole)), made(t, len(whole))
	if e := together.Put(l...); e != api.OK {
		t.Error("Put:", e)
	}
	for _, s := range l {
		if e := single.Put(s); e != api.OK {
			t.Fatal("Put:", e)
		}
	}
	holds(t, together, len(whole), whole)
	holds(t, single, len(whole), whole)
}
