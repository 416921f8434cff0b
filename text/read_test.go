package text_test

import (
	"fmt"
	"math"
	"slices"
	"strings"
	"testing"
	"unsafe"

	"rubato/api"
	"rubato/num"
	"rubato/text"
)

// asked is a piece that is asked of a reader: its name, and most where there is one.
type asked struct {
	piece string
	most  int
}

// got is what a piece that was read is; nothing but what its kind has.
type got struct {
	n int
	s string
	l []int
	b bool
}

func (g got) String() string {
	return fmt.Sprintf("%d %s %v %v", g.n, tohex(g.s), g.l, g.b)
}

func (g got) same(h got) bool {
	return g.n == h.n && g.s == h.s && slices.Equal(g.l, h.l) && g.b == h.b
}

// read asks a reader for a piece.
func read(r *text.Reader, a asked) (g got) {
	switch a.piece {
	case "num":
		g.n = r.Num(a.most)
	case "text":
		g.s = r.Text(a.most)
	case "row":
		g.l = r.Row(a.most)
	case "flag":
		g.b = r.Flag()
	case "end":
		r.End()
	}
	return g
}

// everyPiece is a piece of each name, with no limit.
var everyPiece = []asked{{"num", math.MaxInt}, {"text", math.MaxInt}, {"row", math.MaxInt}, {"flag", 0}, {"end", 0}}

// wantAt holds a reader to a place, and to have no fault.
func wantAt(t testing.TB, what string, r *text.Reader, at int) {
	t.Helper()
	if r.At() != at {
		t.Fatalf("%s: At = %d, want %d", what, r.At(), at)
	}
	wantFault(t, what, r.Done(), api.OK)
}

// wantStuck holds a reader to a place and a fault, whatever is asked of it.
func wantStuck(t testing.TB, what string, r *text.Reader, at int, e api.Errno, ops ...string) {
	t.Helper()
	for _, a := range append([]asked{{}}, everyPiece...) {
		if g := read(r, a); !g.same(got{}) {
			t.Fatalf("%s, then %s: %v", what, a.piece, g)
		}
		for range 2 {
			if r.At() != at {
				t.Fatalf("%s, then %s: At = %d, want %d", what, a.piece, r.At(), at)
			}
			wantFault(t, what+", then "+a.piece, r.Done(), e, ops...)
		}
	}
}

// reading is bytes of which a piece is read, whole.
type reading struct {
	s string
	a asked
	g got
}

// readings are pieces of all kinds, with most just what is there, or more.
func readings(t testing.TB) []reading {
	h := func(s string) string { return unhex(t, s) }
	a127, a128 := strings.Repeat("a", 127), strings.Repeat("b", 128)
	many, ofMany := slices.Repeat([]int{200}, 1000), h("82 03 e8")+strings.Repeat("\x81\xc8", 1000)
	return []reading{
		{h("00"), asked{"num", 0}, got{n: 0}},
		{h("00"), asked{"num", 9}, got{n: 0}},
		{h("07"), asked{"num", 7}, got{n: 7}},
		{h("07"), asked{"num", 8}, got{n: 7}},
		{h("7f"), asked{"num", 127}, got{n: 127}},
		{h("81 80"), asked{"num", 128}, got{n: 128}},
		{h("82 01 02"), asked{"num", 1000000}, got{n: 258}},
		{h(greatest), asked{"num", math.MaxInt}, got{n: math.MaxInt}},
		{h("00"), asked{"text", 0}, got{s: ""}},
		{h("00"), asked{"text", math.MaxInt}, got{s: ""}},
		{h("02 68 69"), asked{"text", 2}, got{s: "hi"}},
		{h("02 68 69"), asked{"text", 3}, got{s: "hi"}},
		{h("7f") + a127, asked{"text", 127}, got{s: a127}},
		{h("81 80") + a128, asked{"text", 128}, got{s: a128}},
		{h("81 80") + a128, asked{"text", math.MaxInt}, got{s: a128}},
		{h("05 ff c3 28 80 00"), asked{"text", 5}, got{s: "\xff\xc3\x28\x80\x00"}},
		{h("07 61 c3 a4 7a e2 82 ac"), asked{"text", 7}, got{s: "aäz€"}},
		{h("00"), asked{"row", 0}, got{}},
		{h("00"), asked{"row", -1}, got{}},
		{h("00"), asked{"row", math.MinInt}, got{}},
		{h("00"), asked{"row", math.MaxInt}, got{}},
		{h("01 00"), asked{"row", 1}, got{l: []int{0}}},
		{h("01 81 80"), asked{"row", 1001}, got{l: []int{128}}},
		{h("05 7f 81 80 82 01 02 " + greatest + " 00"), asked{"row", 5}, got{l: []int{127, 128, 258, math.MaxInt, 0}}},
		{ofMany, asked{"row", 1000}, got{l: many}},
		{ofMany, asked{"row", 1001}, got{l: many}},
		{ofMany, asked{"row", math.MaxInt}, got{l: many}},
		{h("00"), asked{"flag", 0}, got{b: false}},
		{h("01"), asked{"flag", 0}, got{b: true}},
		{"", asked{"end", 0}, got{}},
	}
}

// wrongReading is bytes of which a piece is not read, and the code; anyhow tells whether that holds whatever follows.
type wrongReading struct {
	s      string
	a      asked
	e      api.Errno
	anyhow bool
}

// wrongNums are bytes of which num's Get gets no number.
func wrongNums(t testing.TB) []wrongReading {
	var l []wrongReading
	for s, e := range map[string]api.Errno{
		"": api.ErrShort, "81": api.ErrShort, "82 01": api.ErrShort, "88 7f ff ff ff ff ff ff": api.ErrShort,
		"80": api.ErrForm, "89": api.ErrForm, "ff": api.ErrForm, "81 00": api.ErrForm, "81 7f": api.ErrForm, "82 00 80": api.ErrForm,
		"88 80 00 00 00 00 00 00 00": api.ErrBig, "88 ff ff ff ff ff ff ff ff": api.ErrBig,
	} {
		l = append(l, wrongReading{s: unhex(t, s), e: e, anyhow: e != api.ErrShort})
	}
	return l
}

// wrongReadings are faults of all kinds.
func wrongReadings(t testing.TB) []wrongReading {
	h := func(s string) string { return unhex(t, s) }
	a127, a128 := strings.Repeat("a", 127), strings.Repeat("b", 128)
	more := h("82 03 e9") + strings.Repeat("\x03", 1001)
	l := []wrongReading{
		{h("07"), asked{"num", 6}, api.ErrBig, true},
		{h("07"), asked{"num", 0}, api.ErrBig, true},
		{h("00"), asked{"num", -1}, api.ErrBig, true},
		{h("07"), asked{"num", -1}, api.ErrBig, true},
		{h("00"), asked{"num", math.MinInt}, api.ErrBig, true},
		{h("81 80"), asked{"num", 127}, api.ErrBig, true},
		{h(greatest), asked{"num", math.MaxInt - 1}, api.ErrBig, true},
		{h(greatest), asked{"num", math.MinInt}, api.ErrBig, true},
		{h("00"), asked{"text", -1}, api.ErrBig, true},
		{h("00"), asked{"text", math.MinInt}, api.ErrBig, true},
		{h("02 68 69"), asked{"text", 1}, api.ErrBig, true},
		{h("02 68 69"), asked{"text", 0}, api.ErrBig, true},
		{h("02 68 69"), asked{"text", -1}, api.ErrBig, true},
		{h("7f") + a127, asked{"text", 126}, api.ErrBig, true},
		{h("81 80") + a128, asked{"text", 127}, api.ErrBig, true},
		{h(greatest) + "abc", asked{"text", math.MaxInt - 1}, api.ErrBig, true},
		{h("02 68"), asked{"text", 1}, api.ErrBig, true}, // and it lacks a byte
		{h("02 68"), asked{"text", 2}, api.ErrShort, false},
		{h("02"), asked{"text", 2}, api.ErrShort, false},
		{h("01"), asked{"text", math.MaxInt}, api.ErrShort, false},
		{h("7f") + a127[1:], asked{"text", 127}, api.ErrShort, false},
		{h("81 80") + a128[1:], asked{"text", 200}, api.ErrShort, false},
		{h("81 80"), asked{"text", 200}, api.ErrShort, false},
		{h(greatest), asked{"text", math.MaxInt}, api.ErrShort, true},
		{h(greatest) + "abc", asked{"text", math.MaxInt}, api.ErrShort, true},
		{h("88 7f ff ff ff ff ff ff fe") + "abc", asked{"text", math.MaxInt}, api.ErrShort, true},
		{h("01 05"), asked{"row", 0}, api.ErrBig, true},
		{h("01 05"), asked{"row", -1}, api.ErrBig, true},
		{h("01 05"), asked{"row", math.MinInt}, api.ErrBig, true},
		{h("02 05 05"), asked{"row", 1}, api.ErrBig, true},
		{h("02 05"), asked{"row", 1}, api.ErrBig, true}, // and it lacks a number
		{more, asked{"row", 1000}, api.ErrBig, true},
		{more, asked{"row", 1001}, api.ErrBig, true},
		{more, asked{"row", math.MaxInt}, api.ErrBig, true},
		{h(greatest), asked{"row", math.MaxInt}, api.ErrBig, true},
		{h("02 05"), asked{"row", 2}, api.ErrShort, false},
		{h("02"), asked{"row", 9}, api.ErrShort, false},
		{"", asked{"flag", 0}, api.ErrShort, false},
		{h("02"), asked{"flag", 0}, api.ErrForm, true},
		{h("03"), asked{"flag", 0}, api.ErrForm, true},
		{h("7f"), asked{"flag", 0}, api.ErrForm, true},
		{h("80"), asked{"flag", 0}, api.ErrForm, true},
		{h("81 80"), asked{"flag", 0}, api.ErrForm, true},
		{h("ff"), asked{"flag", 0}, api.ErrForm, true},
		{h("00"), asked{"end", 0}, api.ErrRest, true},
		{h("ff"), asked{"end", 0}, api.ErrRest, true},
		{h("01 02 03"), asked{"end", 0}, api.ErrRest, true},
	}
	for _, x := range wrongNums(t) {
		l = append(l, wrongReading{x.s, asked{"num", math.MaxInt}, x.e, x.anyhow})
		l = append(l, wrongReading{x.s, asked{"num", -1}, x.e, x.anyhow})
		l = append(l, wrongReading{x.s, asked{"text", math.MaxInt}, x.e, x.anyhow})
		l = append(l, wrongReading{x.s, asked{"text", math.MinInt}, x.e, x.anyhow})
		l = append(l, wrongReading{x.s, asked{"row", 5}, x.e, x.anyhow})
		l = append(l, wrongReading{x.s, asked{"row", -5}, x.e, x.anyhow})
		l = append(l, wrongReading{"\x01" + x.s, asked{"row", 1}, x.e, x.anyhow})
		l = append(l, wrongReading{"\x03\x05\x81\x80" + x.s, asked{"row", 1000}, x.e, x.anyhow})
	}
	return l
}

func TestP62Example(t *testing.T) {
	r := text.New(unhex(t, "07 02 68 69"))
	if n := r.Num(6); n != 0 {
		t.Errorf("Num = %d", n)
	}
	wantFault(t, "the example", r.Done(), api.ErrBig, "read", "num")
	if s := r.Done().Error(); s != "read: num: error 3" || r.At() != 0 {
		t.Errorf("Done = %s, At = %d", s, r.At())
	}
	r = text.New(unhex(t, "07 02 68 69"))
	n, s := r.Num(7), r.Text(2)
	r.End()
	if n != 7 || s != "hi" {
		t.Errorf("read were %d, %q", n, s)
	}
	wantAt(t, "the example", r, 4)
}

// Each piece is read, whatever stands ahead of it and behind it, and the place goes behind it.
func TestP62Pieces(t *testing.T) {
	all := readings(t)
	for _, x := range all {
		for _, behind := range []string{"", "\x00", "\x02", "\x80", "\xff\xff", "\x81", "abc"} {
			if x.a.piece == "end" && behind != "" {
				continue
			}
			r := text.New(x.s + behind)
			wantAt(t, "new", r, 0)
			if g := read(r, x.a); !g.same(x.g) {
				t.Fatalf("%s of %s, most %d: %v, want %v", x.a.piece, tohex(x.s), x.a.most, g, x.g)
			}
			wantAt(t, x.a.piece+" of "+tohex(x.s), r, len(x.s))
		}
		for _, y := range all {
			r := text.New(x.s + y.s)
			if x.a.piece == "end" {
				continue
			}
			read(r, x.a)
			if g := read(r, y.a); !g.same(y.g) {
				t.Fatalf("%s behind %s: %v, want %v", y.a.piece, x.a.piece, g, y.g)
			}
			wantAt(t, y.a.piece+" behind "+x.a.piece, r, len(x.s)+len(y.s))
		}
	}
}

// All pieces one behind the other, and then the end, however often it is asked.
func TestP62InRow(t *testing.T) {
	all := slices.DeleteFunc(readings(t), func(x reading) bool { return x.a.piece == "end" })
	var whole strings.Builder
	for _, x := range all {
		whole.WriteString(x.s)
	}
	r, at := text.New(whole.String()), 0
	for _, x := range all {
		wantAt(t, "ahead of "+x.a.piece, r, at)
		if g := read(r, x.a); !g.same(x.g) {
			t.Fatalf("%s at %d: %v, want %v", x.a.piece, at, g, x.g)
		}
		at += len(x.s)
	}
	for range 3 {
		r.End()
		wantAt(t, "the end", r, whole.Len())
	}
	if n := r.Num(5); n != 0 {
		t.Errorf("behind the end: %d", n)
	}
	wantStuck(t, "behind the end", r, whole.Len(), api.ErrShort, "read", "num")
}

// Each fault at the beginning, and behind pieces of each kind: the place is where its piece begins.
func TestP62Faults(t *testing.T) {
	for _, x := range wrongReadings(t) {
		for _, ahead := range readings(t) {
			if ahead.a.piece == "end" {
				ahead.s, ahead.a = "", asked{}
			}
			r := text.New(ahead.s + x.s)
			read(r, ahead.a)
			wantAt(t, "ahead", r, len(ahead.s))
			what := x.a.piece + " of " + tohex(x.s)
			if g := read(r, x.a); !g.same(got{}) {
				t.Fatalf("%s, most %d: %v", what, x.a.most, g)
			}
			wantStuck(t, what, r, len(ahead.s), x.e, "read", x.a.piece)
		}
	}
}

// Faults that do not hang on what follows, with bytes behind them that could be read.
func TestP62FaultsAmid(t *testing.T) {
	for _, x := range wrongReadings(t) {
		for _, behind := range []string{"", "\x00", "\x01", "\x05", "\x03abc", "\x01\x01\x01", "\xff"} {
			if !x.anyhow && behind != "" {
				continue
			}
			r := text.New(x.s + behind)
			read(r, x.a)
			wantStuck(t, x.a.piece+" of "+tohex(x.s+behind), r, 0, x.e, "read", x.a.piece)
		}
	}
}

// A flag is the byte 1 or 0; each other one is a fault.
func TestP62FlagBytes(t *testing.T) {
	for b := range 256 {
		r := text.New("\x07" + string([]byte{byte(b)}))
		r.Num(7)
		flag := r.Flag()
		if b > 1 {
			if flag {
				t.Fatalf("the flag of %d is true", b)
			}
			wantStuck(t, "a flag", r, 1, api.ErrForm, "read", "flag")
			continue
		}
		if flag != (b == 1) {
			t.Fatalf("the flag of %d is %v", b, flag)
		}
		wantAt(t, "a flag", r, 2)
	}
}

// Each number against each most: just those up to it are read.
func TestP62Most(t *testing.T) {
	ints := []int{math.MinInt, math.MinInt + 1, -1 << 32, -2, -1, 0, 1, 2, 126, 127, 128, 129, 255, 256, 999, 1000, 1001, 65536, 1 << 32, math.MaxInt - 1, math.MaxInt}
	for _, n := range ints {
		if n < 0 {
			continue
		}
		for _, most := range ints {
			r := text.New(size(t, n))
			want, e := n, api.OK
			if n > most {
				want, e = 0, api.ErrBig
			}
			if k := r.Num(most); k != want {
				t.Fatalf("Num of %d, most %d: %d", n, most, k)
			}
			wantFault(t, "Num", r.Done(), e, "read", "num")
			if n > 70000 {
				continue
			}
			s := strings.Repeat("s", n)
			r = text.New(size(t, n) + s)
			if e != api.OK {
				s = ""
			}
			if k := r.Text(most); k != s {
				t.Fatalf("Text of %d bytes, most %d: %d bytes", n, most, len(k))
			}
			wantFault(t, "Text", r.Done(), e, "read", "text")
			r = text.New(size(t, n) + strings.Repeat("\x01", n))
			want, e = n, api.OK
			if n > min(max(most, 0), 1000) {
				want, e = 0, api.ErrBig
			}
			if k := r.Row(most); len(k) != want {
				t.Fatalf("Row of %d numbers, most %d: %d numbers", n, most, len(k))
			}
			wantFault(t, "Row", r.Done(), e, "read", "row")
		}
	}
}

// Of a text, and of a row, each part but the whole is too short.
func TestP62Cut(t *testing.T) {
	for _, x := range []reading{
		{size(t, 300) + strings.Repeat("x", 300), asked{"text", 300}, got{}},
		{"\x05hello", asked{"text", 9}, got{}},
		{"\x05\x01\x81\x80\x03" + size(t, math.MaxInt) + "\x00", asked{"row", 5}, got{}},
		{size(t, 130) + strings.Repeat("\x82\x01\x02", 130), asked{"row", 130}, got{}},
		{size(t, math.MaxInt), asked{"num", math.MaxInt}, got{}},
		{"\x01", asked{"flag", 0}, got{}},
	} {
		for n := range len(x.s) {
			r := text.New("\x06" + x.s[:n])
			r.Num(6)
			if g := read(r, x.a); !g.same(got{}) {
				t.Fatalf("%s of %d bytes: %v", x.a.piece, n, g)
			}
			wantStuck(t, x.a.piece+", cut", r, 1, api.ErrShort, "read", x.a.piece)
		}
		r := text.New("\x06" + x.s)
		r.Num(6)
		read(r, x.a)
		wantAt(t, x.a.piece+", whole", r, 1+len(x.s))
	}
}

func TestP62NilReader(t *testing.T) {
	var r *text.Reader
	wantStuck(t, "a nil reader", r, 0, api.ErrNil, "read")
	for _, x := range wrongReadings(t) {
		read(r, x.a)
		wantStuck(t, "a nil reader", r, 0, api.ErrNil, "read")
	}
}

func TestP62PlainReader(t *testing.T) {
	wantStuck(t, "a plain reader", &text.Reader{}, 0, api.ErrNil, "read")
	r := new(text.Reader)
	for _, x := range wrongReadings(t) {
		read(r, x.a)
		wantStuck(t, "a plain reader", r, 0, api.ErrNil, "read")
	}
	// A reader of an empty text is none of these.
	r = text.New("")
	r.End()
	wantAt(t, "a reader of an empty text", r, 0)
}

// Behind a fault of each piece, each other one's fault neither comes nor changes it.
func TestP65ReaderFirst(t *testing.T) {
	all := wrongReadings(t)
	for _, first := range all {
		r := text.New("\x01" + first.s)
		r.Flag()
		read(r, first.a)
		for _, x := range all {
			if g := read(r, x.a); !g.same(got{}) {
				t.Fatalf("%s behind a fault: %v", x.a.piece, g)
			}
		}
		wantStuck(t, "a fault of "+first.a.piece, r, 1, first.e, "read", first.a.piece)
	}
}

// What is read is new memory: lists share none with each other, and texts none with what they were read from.
func TestP62NewMemory(t *testing.T) {
	s := strings.Repeat("\x02\x05\x06", 2) + "\x02hi"
	r, again := text.New(s), text.New(s)
	a, b, hi := r.Row(9), r.Row(9), r.Text(2)
	a[0] = 77
	_ = append(a[:1], 78, 79, 80)
	_ = append(a, 81)
	if !slices.Equal(b, []int{5, 6}) {
		t.Errorf("another row of the reader is %v", b)
	}
	if c := again.Row(9); !slices.Equal(c, []int{5, 6}) {
		t.Errorf("the row, read again, is %v", c)
	}
	from, to := uintptr(unsafe.Pointer(unsafe.StringData(s))), uintptr(unsafe.Pointer(unsafe.StringData(hi)))
	if hi != "hi" || to >= from && to < from+uintptr(len(s)) {
		t.Errorf("the text %q lies in what it was read from", hi)
	}
	if s != strings.Repeat("\x02\x05\x06", 2)+"\x02hi" {
		t.Errorf("what was handed in is %s", tohex(s))
	}
}

// Readers of one text, and a copy of a reader, go on by themselves.
func TestP62Apart(t *testing.T) {
	r, other := text.New("\x01\x02\x03"), text.New("\x01\x02\x03")
	r.Num(9)
	c := *r
	r.Num(1)
	wantAt(t, "another", other, 0)
	wantAt(t, "a copy", &c, 1)
	if n := c.Num(9); n != 2 {
		t.Errorf("a copy reads %d", n)
	}
	wantAt(t, "a copy", &c, 2)
	wantStuck(t, "a reader", r, 1, api.ErrBig, "read", "num")
}

// model tells what a piece at a place is, the place behind it, and its fault.
func model(s string, at int, a asked) (g got, to int, e api.Errno) {
	n, behind, e := num.Get(s, at)
	switch a.piece {
	case "num":
		if e == api.OK && n > a.most {
			e = api.ErrBig
		}
		g.n, to = n, behind
	case "text":
		switch {
		case e != api.OK:
		case n > a.most:
			e = api.ErrBig
		case n > len(s)-behind:
			e = api.ErrShort
		default:
			g.s, to = s[behind:behind+n], behind+n
		}
	case "row":
		g.l, to, e = num.Unrow(s, at, a.most)
	case "flag":
		switch rest := s[at:]; {
		case rest == "":
			e = api.ErrShort
		case rest[0] > 1:
			e = api.ErrForm
		default:
			g.b, to, e = rest[0] == 1, at+1, api.OK
		}
	case "end":
		to, e = at, api.OK
		if s[at:] != "" {
			e = api.ErrRest
		}
	}
	if e != api.OK {
		return got{}, at, e
	}
	return g, to, e
}
