package num_test

import (
	"math"
	"slices"
	"strings"
	"testing"

	"rubato/api"
	"rubato/num"
)

// row tells a row's bytes.
func row(t testing.TB, l ...int) string {
	t.Helper()
	s, e := num.Row(l...)
	if e != api.OK {
		t.Fatalf("Row(%v) = %v", l, e)
	}
	return s
}

func TestP53Unrow(t *testing.T) {
	for _, x := range []struct {
		s    string
		most int
		l    []int
	}{
		{"00", 0, nil}, {"00", 1, nil}, {"00", 1000, nil}, {"01 00", 1, []int{0}}, {"01 05", 9, []int{5}}, {"01 81 80", 1, []int{128}},
		{"02 00 00", 2, []int{0, 0}}, {"03 7f 81 80 82 01 02", 3, []int{127, 128, 258}}, {"04 01 01 02 01", 1000, []int{1, 1, 2, 1}},
		{"02 88 7f ff ff ff ff ff ff ff 00", 2, []int{math.MaxInt, 0}},
	} {
		s := unhex(t, x.s)
		wantRow(t, s, 0, x.most, x.l, len(s), api.OK)
	}
}

// Rows of many numbers are got back, wherever they stand, as long as there may be as many.
func TestP53UnrowMany(t *testing.T) {
	all := numbers()
	for _, n := range []int{0, 1, 2, 126, 127, 128, 129, 255, 256, 257, 998, 999, 1000} {
		l := make([]int, n)
		for i := range l {
			l[i] = all[(n+i*7)%len(all)]
		}
		s := row(t, l...)
		for _, ahead := range around {
			for _, behind := range []string{"", "\x00", "\xff", "\x81", "abc"} {
				wantRow(t, ahead+s+behind, len(ahead), n, l, len(ahead)+len(s), api.OK)
				wantRow(t, ahead+s+behind, len(ahead), 1000, l, len(ahead)+len(s), api.OK)
			}
		}
	}
}

// most is held from 0 to 1000; a count above it is ErrBig, whatever follows.
func TestP53UnrowMost(t *testing.T) {
	mosts := append([]int{0, 1, 2, 3, 126, 127, 128, 129, 256, 998, 999, 1000, 1001, 1002, 2000, 65536, math.MaxInt32, 1 << 32, 1<<32 + 1, math.MaxInt - 1, math.MaxInt}, below...)
	for _, most := range mosts {
		held := min(max(most, 0), 1000)
		for _, n := range []int{0, 1, 2, 3, 4, 127, 128, 129, 999, 1000, 1001, 1002, 2000} {
			l := upTo(n)
			s := row(t, l...)
			if n > held {
				wantRow(t, s, 0, most, nil, 0, api.ErrBig)
				wantRow(t, put(t, n), 0, most, nil, 0, api.ErrBig)
				wantRow(t, "\x05"+put(t, n)+"\x80\xff", 1, most, nil, 0, api.ErrBig)
			} else {
				wantRow(t, s, 0, most, l, len(s), api.OK)
			}
		}
		just := row(t, upTo(held)...)
		wantRow(t, just, 0, most, upTo(held), len(just), api.OK)
		wantRow(t, row(t, upTo(held+1)...), 0, most, nil, 0, api.ErrBig)
	}
	for _, n := range numbers() {
		if n > 1000 {
			wantRow(t, put(t, n), 0, math.MaxInt, nil, 0, api.ErrBig)
			wantRow(t, put(t, n)+strings.Repeat("\x01", 3000), 0, math.MaxInt, nil, 0, api.ErrBig)
		}
	}
}

// A fault of the count is told as Get tells it, be there numbers behind or not, and whatever most is.
func TestP53UnrowCount(t *testing.T) {
	for _, x := range faults {
		s := unhex(t, x.s)
		for _, most := range []int{math.MinInt, -1, 0, 1, 5, 1000, 1001, math.MaxInt} {
			wantRow(t, s, 0, most, nil, 0, x.e)
			wantRow(t, "\x02\x05"+s, 2, most, nil, 0, x.e)
			if x.e != api.ErrShort {
				wantRow(t, s+"\x01\x02\x03", 0, most, nil, 0, x.e)
			}
		}
	}
	s := row(t, 5, 128)
	for _, at := range []int{math.MinInt, math.MinInt32, -1 << 32, -5, -1, len(s) + 1, len(s) + 2, 1 << 32, 1<<32 + 1, math.MaxInt - 1, math.MaxInt} {
		wantRow(t, s, at, 9, nil, 0, api.ErrArg)
		wantRow(t, s, at, -1, nil, 0, api.ErrArg)
		wantRow(t, "", at, 9, nil, 0, api.ErrArg)
	}
	wantRow(t, s, len(s), 9, nil, 0, api.ErrShort)
	wantRow(t, "", 0, 9, nil, 0, api.ErrShort)
}

// A fault of any number is told as Get tells it: that of the first one that has a fault.
func TestP53UnrowNumber(t *testing.T) {
	for _, n := range []int{1, 2, 3, 7, 130, 1000} {
		for _, bad := range []int{0, 1, n / 2, n - 2, n - 1} {
			if bad < 0 || bad >= n {
				continue
			}
			ahead := put(t, n) + put(t, upTo(bad)...)
			for _, x := range faults {
				s := ahead + unhex(t, x.s)
				wantRow(t, s, 0, 1000, nil, 0, x.e)
				wantRow(t, "\xff\x01"+s, 2, n, nil, 0, x.e)
				wantRow(t, s, 0, n-1, nil, 0, api.ErrBig)
				if x.e != api.ErrShort {
					wantRow(t, s+strings.Repeat("\x80", n), 0, 1000, nil, 0, x.e)
					wantRow(t, s+strings.Repeat("\x07", n), 0, 1000, nil, 0, x.e)
				}
			}
		}
	}
	form, big := "\x81\x05", "\x88\xff\xff\xff\xff\xff\xff\xff\xff"
	wantRow(t, "\x03\x01"+form+big, 0, 3, nil, 0, api.ErrForm)
	wantRow(t, "\x03\x01"+big+form, 0, 3, nil, 0, api.ErrBig)
	wantRow(t, "\x03\x01\x02\x81", 0, 3, nil, 0, api.ErrShort)
}

// Cut off at any place, a row is too short.
func TestP53UnrowCut(t *testing.T) {
	for _, l := range [][]int{{}, {0}, {127}, {128}, {5, 300, 0}, {math.MaxInt, 0, math.MaxInt}, upTo(200)} {
		s := row(t, l...)
		for cut := range s {
			wantRow(t, s[:cut], 0, 1000, nil, 0, api.ErrShort)
		}
		wantRow(t, s, 0, 1000, l, len(s), api.OK)
	}
}

// A row is not the row behind it, and rows are got one behind the other.
func TestP53UnrowRows(t *testing.T) {
	rows := [][]int{{1, 2}, {}, {128}, {}, {}, {0, 0, 0}, {1 << 40, 5}, upTo(1000), {7}}
	s, at := "\x09", 1
	for _, l := range rows {
		s += row(t, l...)
	}
	for _, l := range rows {
		got, to, e := num.Unrow(s, at, 1000)
		if !slices.Equal(got, l) || e != api.OK {
			t.Fatalf("Unrow at %d = %v, %d, %v, want %v", at, got, to, e, l)
		}
		at = to
	}
	if at != len(s) {
		t.Errorf("the rows end at %d of %d", at, len(s))
	}
}

// What is handed in stays as it was, its spare room too.
func TestR4RowKeeps(t *testing.T) {
	for _, last := range []int{4, -1} {
		all := []int{9, 300, 0, last, 71, 72, 73}
		was := slices.Clone(all)
		one, _ := num.Row(all[:4]...)
		if !slices.Equal(all, was) {
			t.Fatalf("Row changed what it was handed: %v, was %v", all, was)
		}
		all[1] = 5
		was[1] = 5
		two, _ := num.Row(all[1:4:5]...)
		if !slices.Equal(all, was) {
			t.Fatalf("Row changed what it was handed: %v, was %v", all, was)
		}
		if last >= 0 && (one != "\x04\x09\x82\x01\x2c\x00\x04" || two != "\x03\x05\x00\x04") {
			t.Errorf("rows %s and %s", tohex(one), tohex(two))
		}
	}
}

// Each list that is handed out is a new one.
func TestR4UnrowNew(t *testing.T) {
	s := row(t, 5, 6, 7)
	a, _, _ := num.Unrow(s, 0, 9)
	b, _, _ := num.Unrow(s, 0, 9)
	for i := range a {
		a[i] = -1
	}
	_ = append(a, -2)
	if !slices.Equal(b, []int{5, 6, 7}) {
		t.Errorf("the second list is %v", b)
	}
	_ = append(b[:0], 91, 92, 93, 94)
	wantRow(t, s, 0, 9, []int{5, 6, 7}, len(s), api.OK)
}
