package num_test

import (
	"encoding/hex"
	"math"
	"slices"
	"strconv"
	"strings"
	"testing"

	"rubato/api"
	"rubato/num"
)

// unhex makes a text of its bytes, written to the base 16, with blanks between as one likes.
func unhex(t testing.TB, s string) string {
	t.Helper()
	b, err := hex.DecodeString(strings.ReplaceAll(s, " ", ""))
	if err != nil {
		t.Fatal(err)
	}
	return string(b)
}

func tohex(s string) string { return hex.EncodeToString([]byte(s)) }

// below are numbers below 0.
var below = []int{-1, -2, -7, -127, -128, -129, -255, -256, -257, -65536, math.MinInt32, -1 << 32, -1<<32 + 5, math.MinInt + 1, math.MinInt}

// numbers are numbers that have bytes, rising: the ends of each length, those about each power of 2, and some between.
func numbers() []int {
	l := []int{0, 1, 2, 3, 10, 99, 200, 258, 300, 1000, 20000, 99999, 1000000, 0x010203, 0x01020304, 0x7f80ff00, 0x0102030405060708, 0x7f00000000000000, 0x7ffffffffffffffe}
	for i := range 63 {
		n := 1 << i
		l = append(l, n-1, n, n+1, n+n/2, n+(n-1))
	}
	slices.Sort(l)
	return slices.Compact(l)
}

// inHex are numbers with their bytes, as the chapter's words tell them.
var inHex = []struct {
	n int
	s string
}{
	{127, "7f"}, {128, "81 80"}, {258, "82 01 02"}, // the chapter's example
	{0, "00"}, {1, "01"}, {10, "0a"}, {126, "7e"}, {129, "81 81"}, {200, "81 c8"}, {254, "81 fe"}, {255, "81 ff"},
	{256, "82 01 00"}, {257, "82 01 01"}, {511, "82 01 ff"}, {512, "82 02 00"}, {32768, "82 80 00"}, {65535, "82 ff ff"},
	{65536, "83 01 00 00"}, {99999, "83 01 86 9f"}, {1000000, "83 0f 42 40"}, {1<<24 - 1, "83 ff ff ff"},
	{1 << 24, "84 01 00 00 00"}, {math.MaxInt32, "84 7f ff ff ff"}, {1 << 31, "84 80 00 00 00"}, {math.MaxUint32, "84 ff ff ff ff"},
	{1 << 32, "85 01 00 00 00 00"}, {1<<32 + 3, "85 01 00 00 00 03"}, {1<<40 - 1, "85 ff ff ff ff ff"},
	{1 << 40, "86 01 00 00 00 00 00"}, {1<<48 - 1, "86 ff ff ff ff ff ff"},
	{1 << 48, "87 01 00 00 00 00 00 00"}, {1<<56 - 1, "87 ff ff ff ff ff ff ff"},
	{1 << 56, "88 01 00 00 00 00 00 00 00"}, {0x0102030405060708, "88 01 02 03 04 05 06 07 08"},
	{math.MaxInt - 1, "88 7f ff ff ff ff ff ff fe"}, {math.MaxInt, "88 7f ff ff ff ff ff ff ff"},
}

// put tells the bytes of numbers, one behind the other.
func put(t testing.TB, l ...int) string {
	t.Helper()
	s := ""
	for _, n := range l {
		p, e := num.Put(n)
		if e != api.OK {
			t.Fatalf("Put(%d) = %v", n, e)
		}
		s += p
	}
	return s
}

func wantGot(t testing.TB, s string, at, wantN, wantTo int, want api.Errno) {
	t.Helper()
	if n, to, e := num.Get(s, at); n != wantN || to != wantTo || e != want {
		t.Fatalf("Get(%s, %d) = %d, %d, %v, want %d, %d, %v", tohex(s), at, n, to, e, wantN, wantTo, want)
	}
}

func wantRow(t testing.TB, s string, at, most int, wantL []int, wantTo int, want api.Errno) {
	t.Helper()
	if l, to, e := num.Unrow(s, at, most); !slices.Equal(l, wantL) || to != wantTo || e != want {
		t.Fatalf("Unrow(%s, %d, %d) = %v, %d, %v, want %v, %d, %v", tohex(s), at, most, l, to, e, wantL, wantTo, want)
	}
}

func TestP51Put(t *testing.T) {
	for _, x := range inHex {
		if s, e := num.Put(x.n); s != unhex(t, x.s) || e != api.OK {
			t.Errorf("Put(%d) = %s, %v, want %s", x.n, tohex(s), e, x.s)
		}
	}
	for _, n := range below {
		if s, e := num.Put(n); s != "" || e != api.ErrArg {
			t.Errorf("Put(%d) = %s, %v", n, tohex(s), e)
		}
	}
}

// The bytes are those of the number's hexadecimal digits, two by two.
func TestP51PutDigits(t *testing.T) {
	for _, n := range append(numbers(), upTo(70000)...) {
		want := string([]byte{byte(n)})
		if n >= 128 {
			digits := strconv.FormatInt(int64(n), 16)
			if len(digits)%2 == 1 {
				digits = "0" + digits
			}
			want = unhex(t, strconv.FormatInt(int64(128+len(digits)/2), 16)+digits)
		}
		if s, e := num.Put(n); s != want || e != api.OK {
			t.Fatalf("Put(%d) = %s, %v, want %s", n, tohex(s), e, tohex(want))
		}
	}
}

func upTo(n int) []int {
	l := make([]int, n)
	for i := range l {
		l[i] = i
	}
	return l
}

func TestP51Size(t *testing.T) {
	for _, x := range inHex {
		if got, want := num.Size(x.n), len(unhex(t, x.s)); got != want {
			t.Errorf("Size(%d) = %d, want %d", x.n, got, want)
		}
	}
	for _, n := range append(numbers(), upTo(70000)...) {
		if got, want := num.Size(n), len(put(t, n)); got != want {
			t.Errorf("Size(%d) = %d, but it has %d bytes", n, got, want)
		}
	}
	for _, n := range below {
		if got := num.Size(n); got != 0 {
			t.Errorf("Size(%d) = %d", n, got)
		}
	}
}

func TestP52Get(t *testing.T) {
	for _, x := range inHex {
		s := unhex(t, x.s)
		wantGot(t, s, 0, x.n, len(s), api.OK)
	}
}

// faults are bytes of which no number is got, at their beginning.
var faults = []struct {
	s string
	e api.Errno
}{
	{"", api.ErrShort},
	{"80", api.ErrForm}, {"80 00", api.ErrForm}, {"80 05", api.ErrForm}, {"80 81 80", api.ErrForm},
	{"89", api.ErrForm}, {"89 01 02 03 04 05 06 07 08 09", api.ErrForm}, {"8a", api.ErrForm}, {"90", api.ErrForm},
	{"c3 a4", api.ErrForm}, {"fe", api.ErrForm}, {"ff", api.ErrForm}, {"ff 01 02 03 04 05 06 07 08 09", api.ErrForm},
	{"81", api.ErrShort}, {"82", api.ErrShort}, {"82 01", api.ErrShort}, {"83", api.ErrShort}, {"83 01 02", api.ErrShort},
	{"84 01 02 03", api.ErrShort}, {"85 01 02 03 04", api.ErrShort}, {"86 01 02 03 04 05", api.ErrShort},
	{"87 01 02 03 04 05 06", api.ErrShort}, {"88", api.ErrShort}, {"88 01 02 03 04 05 06 07", api.ErrShort},
	// It lacks bytes, and what is there would be no number either.
	{"82 00", api.ErrShort}, {"83 00 00", api.ErrShort}, {"88 00", api.ErrShort}, {"88 ff ff ff ff ff ff ff", api.ErrShort},
	// The first byte that follows is 0.
	{"81 00", api.ErrForm}, {"82 00 00", api.ErrForm}, {"82 00 7f", api.ErrForm}, {"82 00 80", api.ErrForm}, {"82 00 ff", api.ErrForm},
	{"83 00 01 00", api.ErrForm}, {"83 00 ff ff", api.ErrForm}, {"84 00 ff ff ff", api.ErrForm}, {"85 00 ff ff ff ff", api.ErrForm},
	{"86 00 ff ff ff ff ff", api.ErrForm}, {"87 00 ff ff ff ff ff ff", api.ErrForm}, {"88 00 ff ff ff ff ff ff ff", api.ErrForm},
	{"88 00 00 00 00 00 00 00 00", api.ErrForm}, {"88 00 80 00 00 00 00 00 00", api.ErrForm},
	// Numbers below 128.
	{"81 01", api.ErrForm}, {"81 02", api.ErrForm}, {"81 40", api.ErrForm}, {"81 7e", api.ErrForm}, {"81 7f", api.ErrForm},
	{"82 00 01", api.ErrForm}, {"83 00 00 7f", api.ErrForm}, {"88 00 00 00 00 00 00 00 05", api.ErrForm},
	// Numbers above the greatest int.
	{"88 80 00 00 00 00 00 00 00", api.ErrBig}, {"88 80 00 00 00 00 00 00 01", api.ErrBig}, {"88 80 00 00 00 00 00 00 7f", api.ErrBig},
	{"88 80 ff ff ff ff ff ff ff", api.ErrBig}, {"88 81 02 03 04 05 06 07 08", api.ErrBig}, {"88 c0 00 00 00 00 00 00 00", api.ErrBig},
	{"88 ff ff ff ff ff ff ff fe", api.ErrBig}, {"88 ff ff ff ff ff ff ff ff", api.ErrBig}, {"88 ff 00 00 00 00 00 00 00", api.ErrBig},
}

func TestP52GetFaults(t *testing.T) {
	for _, x := range faults {
		wantGot(t, unhex(t, x.s), 0, 0, 0, x.e)
	}
}

// Each first byte, with each number of bytes behind it.
func TestP52GetFirst(t *testing.T) {
	for first := range 256 {
		for behind := range 12 {
			s := string([]byte{byte(first)}) + strings.Repeat("\x41", behind)
			more := first - 128
			switch {
			case first < 128:
				wantGot(t, s, 0, first, 1, api.OK)
			case more < 1 || more > 8:
				wantGot(t, s, 0, 0, 0, api.ErrForm)
			case behind < more:
				wantGot(t, s, 0, 0, 0, api.ErrShort)
			case more == 1: // 65 has one byte
				wantGot(t, s, 0, 0, 0, api.ErrForm)
			default:
				n := 0
				for range more {
					n = n*256 + 0x41
				}
				wantGot(t, s, 0, n, 1+more, api.OK)
			}
		}
	}
}

func TestP52GetAt(t *testing.T) {
	for _, s := range []string{"", "\x05", "\x81\x80", "\x82\x01\x02", "abc", "\x80", "\xff\xff", strings.Repeat("\x07", 300)} {
		n := len(s)
		for _, at := range []int{math.MinInt, math.MinInt + 1, math.MinInt32, -1 << 32, -n - 1, -n, -2, -1, n + 1, n + 2, 2*n + 1, math.MaxInt32, 1 << 32, 1<<32 + n, math.MaxInt - 1, math.MaxInt} {
			if at >= 0 && at <= n {
				continue
			}
			wantGot(t, s, at, 0, 0, api.ErrArg)
		}
		wantGot(t, s, n, 0, 0, api.ErrShort)
	}
	s := unhex(t, "05 81 80 82 01 02 7f")
	wantGot(t, s, 0, 5, 1, api.OK)
	wantGot(t, s, 1, 128, 3, api.OK)
	wantGot(t, s, 2, 0, 0, api.ErrForm)
	wantGot(t, s, 3, 258, 6, api.OK)
	wantGot(t, s, 4, 1, 5, api.OK)
	wantGot(t, s, 5, 2, 6, api.OK)
	wantGot(t, s, 6, 127, 7, api.OK)
	wantGot(t, s, 7, 0, 0, api.ErrShort)
	wantGot(t, s, 8, 0, 0, api.ErrArg)
}

// around are bytes that may stand ahead of a number or behind it, some of them no valid UTF-8, some looking like more of it.
var around = []string{
	"", "\x00", "\x05", "\x7f", "\x80", "\x81", "\x88", "\x89", "\xff", "\x82\x01", "\x81\x80", "abc", "\xc3\xa4", "\xe2\x82\xac", "\xf0\x9f\x98\x80",
	"\xc3", "\xe2\x82", "\xff\xfe\xfd", "\x00\x00\x00\x00\x00\x00\x00\x00\x00\x00", "\x88\xff\xff\xff\xff\xff\xff\xff\xff",
}

// What is got at a place does not hang on what is around it: the number and its place, or the fault of bytes that are whole.
func TestP52GetAround(t *testing.T) {
	for _, ahead := range around {
		for _, behind := range around {
			for _, x := range inHex {
				s := unhex(t, x.s)
				wantGot(t, ahead+s+behind, len(ahead), x.n, len(ahead)+len(s), api.OK)
			}
			for _, x := range faults {
				if x.e != api.ErrShort {
					wantGot(t, ahead+unhex(t, x.s)+behind, len(ahead), 0, 0, x.e)
				} else if behind == "" {
					wantGot(t, ahead+unhex(t, x.s), len(ahead), 0, 0, x.e)
				}
			}
		}
	}
}

func TestP53Row(t *testing.T) {
	for _, x := range []struct {
		l []int
		s string
	}{
		{nil, "00"}, {[]int{}, "00"}, {[]int{0}, "01 00"}, {[]int{5}, "01 05"}, {[]int{127}, "01 7f"}, {[]int{128}, "01 81 80"},
		{[]int{0, 0}, "02 00 00"}, {[]int{127, 128, 258}, "03 7f 81 80 82 01 02"}, {[]int{258, 128, 127}, "03 82 01 02 81 80 7f"},
		{[]int{1, 1, 2, 1}, "04 01 01 02 01"}, {[]int{math.MaxInt, 0}, "02 88 7f ff ff ff ff ff ff ff 00"},
	} {
		if s, e := num.Row(x.l...); s != unhex(t, x.s) || e != api.OK {
			t.Errorf("Row(%v) = %s, %v, want %s", x.l, tohex(s), e, x.s)
		}
	}
	if s, e := num.Row(); s != "\x00" || e != api.OK {
		t.Errorf("Row() = %s, %v", tohex(s), e)
	}
	if s, e := num.Row(7, 200, 1); s != "\x03\x07\x81\xc8\x01" || e != api.OK {
		t.Errorf("Row(7, 200, 1) = %s, %v", tohex(s), e)
	}
}

// A row of any length has its bytes: how many there are, as a number, and each.
func TestP53RowMany(t *testing.T) {
	all := numbers()
	for _, n := range []int{1, 2, 126, 127, 128, 129, 200, 255, 256, 257, 999, 1000, 1001, 1002, 20000, 65535, 65536, 100000} {
		l := make([]int, n)
		for i := range l {
			l[i] = all[i*7%len(all)]
		}
		var want strings.Builder
		want.WriteString(put(t, n))
		for _, k := range l {
			want.WriteString(put(t, k))
		}
		if s, e := num.Row(l...); s != want.String() || e != api.OK {
			t.Errorf("Row of %d numbers = %d bytes, %v", n, len(s), e)
		}
	}
}

// One number below 0, at any place, and no row is told.
func TestP53RowBelow(t *testing.T) {
	for _, n := range below {
		for _, size := range []int{1, 2, 3, 5, 130, 1000} {
			for i := 0; i < size; i += 1 + size/9 {
				l := upTo(size)
				l[i] = n
				if s, e := num.Row(l...); s != "" || e != api.ErrArg {
					t.Errorf("Row of %d numbers, %d at place %d = %s, %v", size, n, i, tohex(s), e)
				}
				l[size-1] = n
				if s, e := num.Row(l...); s != "" || e != api.ErrArg {
					t.Errorf("Row of %d numbers, %d at place %d and the last = %s, %v", size, n, i, tohex(s), e)
				}
			}
		}
	}
}
