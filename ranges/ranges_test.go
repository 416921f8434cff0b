package ranges_test

import (
	"math"
	"math/rand"
	"slices"
	"testing"

	"rubato/api"
	"rubato/ranges"
)

const last = api.MaxClock

// far are the farthest numbers of the type, and those whose low bits look like small ones.
var far = []int{
	math.MinInt, math.MinInt + 1, -1 << 32, math.MinInt32, -last, -2, -1,
	math.MaxInt32, 1<<32 + 3, math.MaxInt - 1, math.MaxInt,
}

// of makes ranges of their ends, two by two.
func of(ends ...int) []api.Range {
	var l []api.Range
	for i := 0; i+1 < len(ends); i += 2 {
		l = append(l, api.Range{Lo: ends[i], Hi: ends[i+1]})
	}
	return l
}

// every makes n ranges of size numbers each, with gap numbers between, the first one from lo on.
func every(n, lo, size, gap int) []api.Range {
	var l []api.Range
	for i := range n {
		at := lo + i*(size+gap)
		l = append(l, api.Range{Lo: at, Hi: at + size - 1})
	}
	return l
}

// sets are sets of all kinds.
func sets() [][]api.Range {
	return [][]api.Range{
		nil, {},
		of(1, 1), of(7, 7), of(last, last), of(1, last), of(3, 9), of(1, last-1), of(2, last),
		of(1, 1, 3, 3), of(1, 3, 5, 5), of(3, 9, 11, 20), of(3, 3, 5, 9, 12, 12, 400, 500000),
		of(1, 1, last, last), of(last-2, last-2, last, last), of(1, last-2, last, last),
		every(999, 1, 1, 1), every(1000, 1, 1, 1), every(1000, 2, 1, 1), every(1000, 1, 500, 500), every(1000, 3, 7, 2),
		every(1000, last-1998, 1, 1), every(1000, last-1999, 1, 1),
	}
}

// noSets are ranges that are no set, of all the kinds that there are.
func noSets() [][]api.Range {
	return [][]api.Range{
		of(5, 4), of(5, 1), of(1, 0), of(2, 1), of(last, last-1), of(last+1, last), of(1, -1), of(math.MaxInt, math.MinInt),
		of(0, 0), of(0, 5), of(-1, 5), of(-3, -1), of(0, last), of(math.MinInt, 5), of(math.MinInt, math.MinInt),
		of(last+1, last+1), of(5, last+1), of(1, last+1), of(5, math.MaxInt), of(math.MaxInt, math.MaxInt), of(math.MinInt, math.MaxInt),
		of(1, 3, 4, 5), of(1, 1, 2, 2), of(1, last-1, last, last), of(1, 2, 4, 4, 5, 9),
		of(1, 3, 3, 5), of(1, 3, 2, 5), of(1, 9, 3, 5), of(3, 5, 1, 9), of(1, 3, 1, 3), of(7, 7, 7, 7),
		of(5, 6, 1, 2), of(5, 5, 4, 4), of(1, 1, 9, 9, 5, 5), of(5, 9, 3, 3),
		of(1, 3, 6, 5), of(1, 3, 5, 4), of(1, 3, 5, 5, 7, 6), of(5, 4, 7, 9), of(0, 0, 2, 3),
		of(1, 3, math.MinInt, math.MinInt), of(math.MaxInt, math.MaxInt, 1, 3), of(1, math.MaxInt, math.MinInt, 5),
		of(1, 3, 5, math.MaxInt), of(1, 3, 5, last, last+2, last+2), of(1, 3, 0, 0), of(1, 3, -5, -4),
		make([]api.Range, 1), make([]api.Range, 3),
		every(1001, 1, 1, 1), every(1002, 1, 1, 1), every(5000, 7, 100, 1),
		append(of(1, 1), every(1000, 3, 1, 1)...), append(every(1000, 1, 1, 1), of(5, 4)...), append(every(999, 1, 1, 1), of(3, 3)...),
	}
}

func wantRanges(t *testing.T, got, want []api.Range, what string, of ...any) {
	t.Helper()
	if !slices.Equal(got, want) {
		t.Fatalf("%s%v = %v, want %v", what, of, short(got), short(want))
	}
}

// short keeps what is told of a long list readable.
func short(l []api.Range) []api.Range {
	if len(l) > 12 {
		return append(l[:6:6], l[len(l)-6:]...)
	}
	return l
}

// ends are numbers at the ends of a list's ranges, one below and one above them, and the farthest ones.
func ends(l []api.Range) []int {
	at := append([]int{0, 1, 2, last - 1, last, last + 1}, far...)
	for i, r := range l {
		if i < 3 || i >= len(l)-3 || i%100 == 50 {
			at = append(at, r.Lo-1, r.Lo, r.Lo+1, (r.Lo+r.Hi)/2, r.Hi-1, r.Hi, r.Hi+1)
		}
	}
	slices.Sort(at)
	return slices.Compact(at)
}

func TestP41Check(t *testing.T) {
	for _, l := range sets() {
		if e := ranges.Check(l); e != api.OK {
			t.Errorf("Check(%v) = %v", short(l), e)
		}
	}
	for _, l := range noSets() {
		if e := ranges.Check(l); e != api.ErrArg {
			t.Errorf("Check(%v) = %v", short(l), e)
		}
	}
}

// Each pair of small ranges is a set just if it has the document's form.
func TestP41CheckPairs(t *testing.T) {
	const most = 8
	for a := -1; a <= most; a++ {
		for b := -1; b <= most; b++ {
			for c := -1; c <= most; c++ {
				for d := -1; d <= most; d++ {
					isSet := a >= 1 && a <= b && b+1 < c && c <= d
					if (ranges.Check(of(a, b, c, d)) == api.OK) != isSet {
						t.Fatalf("Check of %d to %d and %d to %d is %v", a, b, c, d, !isSet)
					}
					// The same at the other end.
					o := last + 1 - most
					isSet = a <= b && b+1 < c && c <= d && o+d <= last
					if (ranges.Check(of(o+a, o+b, o+c, o+d)) == api.OK) != isSet {
						t.Fatalf("Check of %d to %d and %d to %d is %v", o+a, o+b, o+c, o+d, !isSet)
					}
				}
			}
		}
	}
}

func TestP41Has(t *testing.T) {
	for _, l := range sets() {
		for _, n := range ends(l) {
			in := false
			for _, r := range l {
				in = in || r.Lo <= n && n <= r.Hi
			}
			if ranges.Has(l, n) != in {
				t.Errorf("Has(%v, %d) = %v", short(l), n, !in)
			}
		}
	}
	l := of(3, 5, 7, 7)
	for n := -3; n < 20; n++ {
		if want := n == 3 || n == 4 || n == 5 || n == 7; ranges.Has(l, n) != want {
			t.Errorf("Has(%v, %d) = %v", l, n, !want)
		}
	}
}

func TestP41Count(t *testing.T) {
	for _, x := range []struct {
		l    []api.Range
		want int
	}{
		{nil, 0}, {of(), 0}, {of(1, 1), 1}, {of(last, last), 1}, {of(3, 9), 7}, {of(1, 3, 5, 5, 7, 8), 6},
		{of(1, last), last}, {of(1, 1, last, last), 2}, {of(1, 3, 5, last), last - 1},
		{every(1000, 1, 1, 1), 1000}, {every(1000, 1, 500, 500), 500000}, {every(1000, 1, 999, 1), 999000},
	} {
		if got := ranges.Count(x.l); got != x.want {
			t.Errorf("Count(%v) = %d, want %d", short(x.l), got, x.want)
		}
	}
}

func TestP42Add(t *testing.T) {
	for _, x := range []struct{ l, more, want []api.Range }{
		{of(1, 3), of(4, 5), of(1, 5)}, // the chapter's example
		{of(4, 5), of(1, 3), of(1, 5)},
		{nil, nil, nil}, {of(), of(), nil}, {of(3, 4), nil, of(3, 4)}, {nil, of(3, 4), of(3, 4)},
		{of(3, 4), of(3, 4), of(3, 4)}, {of(3, 4), of(3, 4, 3, 4, 4, 4), of(3, 4)},
		{of(3, 4), of(6, 7), of(3, 4, 6, 7)}, {of(6, 7), of(3, 4), of(3, 4, 6, 7)},
		{of(3, 4, 6, 7), of(5, 5), of(3, 7)}, {of(3, 4, 8, 9), of(6, 6), of(3, 4, 6, 6, 8, 9)},
		{of(3, 4), of(1, 2), of(1, 4)}, {of(3, 4), of(1, 1), of(1, 1, 3, 4)}, {of(3, 4), of(2, 3), of(2, 4)},
		{of(3, 9), of(4, 5), of(3, 9)}, {of(4, 5), of(3, 9), of(3, 9)}, {of(4, 5, 7, 7, 20, 30), of(3, 18), of(3, 18, 20, 30)},
		{of(4, 5, 7, 7, 20, 30), of(3, 19), of(3, 30)}, {of(4, 5), of(3, 9, 3, 3, 5, 5, 9, 12), of(3, 12)},
		{nil, of(9, 9, 5, 5, 7, 7, 8, 8, 6, 6), of(5, 9)}, {nil, of(1, 9, 3, 4, 6, 6, 12, 12), of(1, 9, 12, 12)},
		// empty ones
		{of(3, 4), of(6, 5), of(3, 4)}, {of(3, 4), of(5, 4), of(3, 4)}, {of(3, 4), of(5, 4, 6, 6, 9, 0), of(3, 4, 6, 6)},
		{of(3, 4, 6, 6), of(5, 4, 6, 5, 5, 3), of(3, 4, 6, 6)}, {of(3, 4), of(9, 2), of(3, 4)},
		{of(3, 4), of(math.MaxInt, math.MinInt), of(3, 4)}, {nil, of(0, -1, 1, 0, last+1, last), nil}, {nil, make([]api.Range, 2), nil},
		// those that go beyond
		{of(3, 4), of(0, 0), of(3, 4)}, {of(3, 4), of(0, 1), of(1, 1, 3, 4)}, {of(3, 4), of(-9, 2), of(1, 4)},
		{of(3, 4), of(math.MinInt, math.MinInt), of(3, 4)}, {of(3, 4), of(math.MinInt, 3), of(1, 4)},
		{of(3, 4), of(last+1, last+1), of(3, 4)}, {of(3, 4), of(last, last+1), of(3, 4, last, last)},
		{of(3, 4), of(math.MaxInt, math.MaxInt), of(3, 4)}, {of(3, 4), of(5, math.MaxInt), of(3, last)},
		{of(3, 4), of(math.MinInt, math.MaxInt), of(1, last)}, {nil, of(math.MinInt, math.MaxInt), of(1, last)},
		{of(last, last), of(last+1, last+9), of(last, last)}, {of(1, 1), of(-5, 0), of(1, 1)},
		{of(2, 2, last-1, last-1), of(-5, 1, last, last+5), of(1, 2, last-1, last)},
		{of(1, last), of(math.MinInt, math.MaxInt, 7, 7, 5, 4), of(1, last)},
	} {
		wantRanges(t, ranges.Add(x.l, x.more...), x.want, "Add", x.l, x.more)
	}
}

// many ranges may be added, in any order, as long as what is told has no more than 1000.
func TestP42AddMany(t *testing.T) {
	var ones []api.Range
	for n := last; n >= 1; n-- {
		ones = append(ones, api.Range{Lo: n, Hi: n})
	}
	wantRanges(t, ranges.Add(nil, ones...), of(1, last), "Add of all numbers one by one")
	wantRanges(t, ranges.Add(of(5, 9), slices.Repeat(of(7, 7, 3, 3, 20, 10), 100000)...), of(3, 3, 5, 9), "Add of the same again and again")

	odd := every(1000, 1, 1, 1)
	rand.New(rand.NewSource(1)).Shuffle(len(ones), func(i, k int) { ones[i], ones[k] = ones[k], ones[i] })
	wantRanges(t, ranges.Add(odd, ones...), of(1, last), "Add of all numbers, shuffled")
}

func TestP42AddBeyondTheLimit(t *testing.T) {
	odd := every(1000, 1, 1, 1) // 1, 3 .. 1999
	most := every(999, 1, 1, 1)
	wantRanges(t, ranges.Add(most, of(1999, 1999)...), odd, "Add of the thousandth")
	wantRanges(t, ranges.Add(nil, odd...), odd, "Add of 1000 to none")
	wantRanges(t, ranges.Add(nil, every(1001, 1, 1, 1)...), nil, "Add of 1001 to none")
	wantRanges(t, ranges.Add(of(7, 7), every(1001, 1, 1, 1)...), of(7, 7), "Add of 1001 to one of them")
	wantRanges(t, ranges.Add(odd, of(2001, 2001)...), odd, "Add of one too many")
	wantRanges(t, ranges.Add(odd, of(last, last)...), odd, "Add of one too many, far off")
	wantRanges(t, ranges.Add(every(1000, 3, 1, 1), of(1, 1)...), every(1000, 3, 1, 1), "Add of one too many, ahead")
	wantRanges(t, ranges.Add(every(1000, 1, 1, 3), of(7, 7)...), every(1000, 1, 1, 3), "Add of one too many, between")
	wantRanges(t, ranges.Add(most, of(1999, 1999, 2001, 2001)...), most, "Add of two, of which one is too many")
	wantRanges(t, ranges.Add(odd, of(2000, 2000)...), append(most[:999:999], of(1999, 2000)...), "Add beside the last one of 1000")
	wantRanges(t, ranges.Add(odd, of(2, 2)...), append(of(1, 3), every(998, 5, 1, 1)...), "Add between two of 1000")
	wantRanges(t, ranges.Add(odd, of(2, 2, 2001, 2001)...), append(of(1, 3), every(999, 5, 1, 1)...), "Add of what joins two and is one more")
	wantRanges(t, ranges.Add(odd, of(2001, 2001, 2, 2)...), append(of(1, 3), every(999, 5, 1, 1)...), "Add of one more and of what joins two")
	wantRanges(t, ranges.Add(odd, of(0, -1, last+1, last+1, 9, 8)...), odd, "Add of nothing to 1000")
	wantRanges(t, ranges.Add(odd, odd...), odd, "Add of the same 1000")
	wantRanges(t, ranges.Add(odd, every(999, 2, 1, 1)...), of(1, 1999), "Add of all between")
}

func TestP42Cut(t *testing.T) {
	for _, x := range []struct {
		l    []api.Range
		upto int
		want []api.Range
	}{
		{nil, 5, nil}, {of(3, 9), 2, of(3, 9)}, {of(3, 9), 3, of(4, 9)}, {of(3, 9), 8, of(9, 9)}, {of(3, 9), 9, nil}, {of(3, 9), 10, nil},
		{of(3, 9), 0, of(3, 9)}, {of(3, 9), math.MinInt, of(3, 9)}, {of(3, 9), math.MaxInt, nil}, {of(3, 9), math.MaxInt - 1, nil},
		{of(1, 1, 3, 3), 0, of(1, 1, 3, 3)}, {of(1, 1, 3, 3), 1, of(3, 3)}, {of(1, 1, 3, 3), 2, of(3, 3)}, {of(1, 1, 3, 3), 3, nil},
		{of(1, 4, 6, 9, 20, 30), 5, of(6, 9, 20, 30)}, {of(1, 4, 6, 9, 20, 30), 7, of(8, 9, 20, 30)}, {of(1, 4, 6, 9, 20, 30), 12, of(20, 30)},
		{of(1, last), last - 1, of(last, last)}, {of(1, last), last, nil}, {of(1, last), last + 1, nil}, {of(1, last), -1, of(1, last)},
		{every(1000, 1, 1, 1), 1, every(999, 3, 1, 1)}, {every(1000, 1, 1, 1), 0, every(1000, 1, 1, 1)}, {every(1000, 1, 1, 1), 1998, of(1999, 1999)},
	} {
		wantRanges(t, ranges.Cut(x.l, x.upto), x.want, "Cut", short(x.l), x.upto)
	}
}

func TestP42Less(t *testing.T) {
	for _, x := range []struct{ l, r, want []api.Range }{
		{nil, of(1, 5), nil}, {of(3, 9), of(3, 9), nil}, {of(3, 9), of(1, 12), nil}, {of(3, 9), of(1, 2), of(3, 9)}, {of(3, 9), of(10, 12), of(3, 9)},
		{of(3, 9), of(5, 6), of(3, 4, 7, 9)}, {of(3, 9), of(5, 5), of(3, 4, 6, 9)}, {of(3, 5), of(4, 4), of(3, 3, 5, 5)},
		{of(3, 9), of(3, 3), of(4, 9)}, {of(3, 9), of(9, 9), of(3, 8)}, {of(3, 9), of(1, 3), of(4, 9)}, {of(3, 9), of(9, 20), of(3, 8)},
		{of(3, 9), of(4, 9), of(3, 3)}, {of(3, 9), of(3, 8), of(9, 9)}, {of(7, 7), of(7, 7), nil},
		{of(1, 4, 6, 9, 20, 30), of(3, 21), of(1, 2, 22, 30)}, {of(1, 4, 6, 9, 20, 30), of(5, 19), of(1, 4, 20, 30)},
		{of(1, 4, 6, 9, 20, 30), of(7, 8), of(1, 4, 6, 6, 9, 9, 20, 30)}, {of(1, 4, 6, 9, 20, 30), of(1, 30), nil}, {of(1, 4, 6, 9, 20, 30), of(5, 5), of(1, 4, 6, 9, 20, 30)},
		// empty ones
		{of(3, 9), of(6, 5), of(3, 9)}, {of(3, 9), of(9, 3), of(3, 9)}, {of(3, 9), of(5, 4), of(3, 9)}, {of(3, 9), of(math.MaxInt, math.MinInt), of(3, 9)},
		{of(1, 9), of(1, 0), of(1, 9)}, {of(1, last), of(last, last-1), of(1, last)}, {of(3, 9), of(6, -6), of(3, 9)}, {of(3, 9), of(last+6, 6), of(3, 9)},
		// those that go beyond
		{of(3, 9), of(0, 0), of(3, 9)}, {of(3, 9), of(math.MinInt, 0), of(3, 9)}, {of(3, 9), of(math.MinInt, math.MinInt), of(3, 9)},
		{of(3, 9), of(math.MinInt, 4), of(5, 9)}, {of(3, 9), of(5, math.MaxInt), of(3, 4)}, {of(3, 9), of(math.MinInt, math.MaxInt), nil},
		{of(3, 9), of(last+1, math.MaxInt), of(3, 9)}, {of(3, 9), of(math.MaxInt, math.MaxInt), of(3, 9)},
		{of(1, last), of(-5, 1), of(2, last)}, {of(1, last), of(last, last+5), of(1, last-1)}, {of(1, last), of(1, last), nil},
		{of(1, last), of(0, last+1), nil}, {of(1, last), of(2, last-1), of(1, 1, last, last)},
	} {
		wantRanges(t, ranges.Less(x.l, x.r[0]), x.want, "Less", x.l, x.r)
	}
}

func TestP42LessBeyondTheLimit(t *testing.T) {
	threes := every(1000, 1, 3, 1) // 1 to 3, 5 to 7 .. 3997 to 3999
	for _, r := range of(2, 2, 2002, 2002, 3998, 3998) {
		wantRanges(t, ranges.Less(threes, r), threes, "Less of what splits one of 1000", r)
	}
	wantRanges(t, ranges.Less(threes, api.Range{Lo: 1, Hi: 2}), append(of(3, 3), threes[1:]...), "Less of a beginning")
	wantRanges(t, ranges.Less(threes, api.Range{Lo: 2, Hi: 6}), append(of(1, 1, 7, 7), threes[2:]...), "Less of an end and a beginning")
	wantRanges(t, ranges.Less(threes, api.Range{Lo: 2, Hi: 10}), append(of(1, 1, 11, 11), threes[3:]...), "Less of three")
	wantRanges(t, ranges.Less(threes[:999], api.Range{Lo: 2, Hi: 2}), append(of(1, 1, 3, 3), threes[1:999]...), "Less of what splits one of 999")
	wantRanges(t, ranges.Less(threes, api.Range{Lo: 4, Hi: 4}), threes, "Less of a gap of 1000")
	wantRanges(t, ranges.Less(threes, api.Range{Lo: 3, Hi: 2}), threes, "Less of nothing of 1000")
}

func TestP43Prefix(t *testing.T) {
	for _, x := range []struct {
		l          []api.Range
		base, want int
	}{
		{nil, 0, 0}, {nil, 5, 5}, {nil, -5, -5}, {of(1, 3), 0, 3}, {of(1, 3), 1, 3}, {of(1, 3), 2, 3}, {of(1, 3), 3, 3}, {of(1, 3), 4, 4},
		{of(1, 3), -1, -1}, {of(1, 3), math.MinInt, math.MinInt}, {of(1, 3), math.MaxInt, math.MaxInt}, {of(1, 3), math.MaxInt - 1, math.MaxInt - 1},
		{of(3, 9), 0, 0}, {of(3, 9), 1, 1}, {of(3, 9), 2, 9}, {of(3, 9), 3, 9}, {of(3, 9), 8, 9}, {of(3, 9), 9, 9}, {of(3, 9), 10, 10},
		{of(1, 3, 5, 9, 11, 11), 0, 3}, {of(1, 3, 5, 9, 11, 11), 3, 3}, {of(1, 3, 5, 9, 11, 11), 4, 9}, {of(1, 3, 5, 9, 11, 11), 9, 9},
		{of(1, 3, 5, 9, 11, 11), 10, 11}, {of(1, 3, 5, 9, 11, 11), 11, 11}, {of(1, 3, 5, 9, 11, 11), 12, 12},
		{of(1, last), 0, last}, {of(1, last), last - 1, last}, {of(1, last), last, last}, {of(1, last), last + 1, last + 1}, {of(1, last), -1, -1},
		{of(last, last), last - 1, last}, {of(last, last), last - 2, last - 2}, {of(2, 2), 0, 0}, {of(2, 2), 1, 2},
		{every(1000, 1, 1, 1), 1998, 1999}, {every(1000, 1, 1, 1), 1999, 1999}, {every(1000, 1, 1, 1), 1997, 1997},
	} {
		if got := ranges.Prefix(x.l, x.base); got != x.want {
			t.Errorf("Prefix(%v, %d) = %d, want %d", short(x.l), x.base, got, x.want)
		}
	}
}

func TestP43Gaps(t *testing.T) {
	for _, x := range []struct {
		l      []api.Range
		lo, hi int
		want   []api.Range
	}{
		{nil, 1, 5, of(1, 5)}, {nil, 5, 5, of(5, 5)}, {nil, math.MinInt, math.MaxInt, of(1, last)}, {nil, 0, last + 1, of(1, last)},
		{nil, 5, 4, nil}, {nil, math.MaxInt, math.MinInt, nil}, {nil, 0, 0, nil}, {nil, math.MinInt, 0, nil}, {nil, last + 1, math.MaxInt, nil},
		{nil, -3, 1, of(1, 1)}, {nil, last, last + 3, of(last, last)}, {nil, last + 3, last, nil}, {nil, 1, -1, nil},
		{of(3, 9), 3, 9, nil}, {of(3, 9), 4, 8, nil}, {of(3, 9), 1, 9, of(1, 2)}, {of(3, 9), 2, 10, of(2, 2, 10, 10)}, {of(3, 9), 1, 2, of(1, 2)},
		{of(3, 9), 10, 12, of(10, 12)}, {of(3, 9), 5, 12, of(10, 12)}, {of(3, 9), 9, 10, of(10, 10)}, {of(3, 9), 2, 3, of(2, 2)},
		{of(3, 9), 9, 3, nil}, {of(3, 9), 6, 5, nil}, {of(3, 9), 20, 1, nil}, {of(3, 9), 2, 1, nil}, {of(3, 9), 11, 10, nil}, {of(3, 9), 4, 3, nil},
		{of(3, 9), math.MinInt, math.MaxInt, of(1, 2, 10, last)}, {of(3, 9), math.MinInt, math.MinInt, nil}, {of(3, 9), math.MaxInt, math.MaxInt, nil},
		{of(1, 4, 6, 9, 20, 30), 1, 30, of(5, 5, 10, 19)}, {of(1, 4, 6, 9, 20, 30), 5, 19, of(5, 5, 10, 19)}, {of(1, 4, 6, 9, 20, 30), 6, 31, of(10, 19, 31, 31)},
		{of(1, 4, 6, 9, 20, 30), 11, 18, of(11, 18)}, {of(1, 4, 6, 9, 20, 30), 7, 12, of(10, 12)}, {of(1, 4, 6, 9, 20, 30), 19, 2, nil},
		{of(1, last), 1, last, nil}, {of(1, last), math.MinInt, math.MaxInt, nil}, {of(2, last), 0, last, of(1, 1)}, {of(1, last-1), 1, last + 9, of(last, last)},
		{of(1, 1, last, last), 1, last, of(2, last-1)},
	} {
		wantRanges(t, ranges.Gaps(x.l, x.lo, x.hi), x.want, "Gaps", x.l, x.lo, x.hi)
	}
}

func TestP43GapsBeyondTheLimit(t *testing.T) {
	even := every(1000, 2, 1, 1) // 2, 4 .. 2000
	odd := every(1001, 1, 1, 1)  // 1, 3 .. 2001
	wantRanges(t, ranges.Gaps(even, 1, 2000), odd[:1000], "Gaps of 1000 ranges up to the last one")
	wantRanges(t, ranges.Gaps(even, 2, 2001), odd[1:], "Gaps of 1000 ranges from the first one")
	wantRanges(t, ranges.Gaps(even, 1, 2001), nil, "Gaps of 1000 ranges, with one ahead and one behind")
	wantRanges(t, ranges.Gaps(even, math.MinInt, math.MaxInt), nil, "Gaps of 1000 ranges in all numbers")
	wantRanges(t, ranges.Gaps(even[:999], 1, 2001), append(odd[:999:999], of(1999, 2001)...), "Gaps of 999 ranges")
	wantRanges(t, ranges.Gaps(even, 500, 600), odd[250:300], "Gaps of 1000 ranges, some of them")
	wantRanges(t, ranges.Gaps(every(1000, last-1998, 1, 1), last-1998, last+7), every(999, last-1997, 1, 1), "Gaps of 1000 ranges up to the last number")
}

func TestP41OfNoSet(t *testing.T) {
	for _, l := range noSets() {
		for _, n := range ends(l) {
			if ranges.Has(l, n) {
				t.Errorf("Has(%v, %d)", short(l), n)
			}
		}
		if n := ranges.Count(l); n != 0 {
			t.Errorf("Count(%v) = %d", short(l), n)
		}
	}
}

func TestP42OfNoSet(t *testing.T) {
	for _, l := range noSets() {
		for _, more := range [][]api.Range{nil, of(5, 4), of(7, 7), of(2, 2, 4, 4), of(1, last), l} {
			wantRanges(t, ranges.Add(l, more...), nil, "Add", short(l), short(more))
		}
		for _, n := range ends(l) {
			wantRanges(t, ranges.Cut(l, n), nil, "Cut", short(l), n)
			for _, r := range of(n, n, n, n-1, n, math.MaxInt, math.MinInt, n) {
				wantRanges(t, ranges.Less(l, r), nil, "Less", short(l), r)
			}
		}
	}
}

func TestP43OfNoSet(t *testing.T) {
	for _, l := range noSets() {
		for _, n := range ends(l) {
			if p := ranges.Prefix(l, n); p != n {
				t.Errorf("Prefix(%v, %d) = %d", short(l), n, p)
			}
			for _, hi := range []int{math.MinInt, n, n + 7, last, math.MaxInt} {
				wantRanges(t, ranges.Gaps(l, n, hi), nil, "Gaps", short(l), n, hi)
			}
		}
	}
}
