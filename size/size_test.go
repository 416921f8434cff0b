package size_test

import (
	"math"
	"slices"
	"testing"

	"rubato/api"
	"rubato/size"
)

// sizes are all n and f that there may be, with what the chapter's words make of them.
var sizes = []struct{ n, f, fast, slow, back, most int }{
	{3, 1, 2, 2, 2, 2},
	{4, 1, 3, 2, 3, 3},
	{5, 1, 3, 2, 4, 3},
	{5, 2, 4, 3, 3, 3},
	{6, 1, 4, 2, 5, 4},
	{6, 2, 5, 3, 4, 4},
	{7, 1, 4, 2, 6, 4},
	{7, 2, 5, 3, 5, 4},
	{7, 3, 6, 4, 4, 4},
	{8, 1, 5, 2, 7, 5},
	{8, 2, 6, 3, 6, 5},
	{8, 3, 7, 4, 5, 5},
	{9, 1, 5, 2, 8, 5},
	{9, 2, 6, 3, 7, 5},
	{9, 3, 7, 4, 6, 5},
	{9, 4, 8, 5, 5, 5},
}

// around are the numbers near the limits, and the farthest of the type.
func around(least, most int) []int {
	l := []int{math.MinInt, math.MinInt + 1, math.MaxInt - 1, math.MaxInt}
	for i := least - 2; i <= most+2; i++ {
		l = append(l, i)
	}
	return l
}

func mayBe(n, f int) bool {
	for _, x := range sizes {
		if x.n == n && x.f == f {
			return true
		}
	}
	return false
}

func TestP11SizesThatMayBe(t *testing.T) {
	for _, x := range sizes {
		if e := size.Check(x.n, x.f); e != api.OK {
			t.Errorf("Check(%d, %d) = %v", x.n, x.f, e)
		}
		if got := size.Fast(x.n, x.f); got != x.fast {
			t.Errorf("Fast(%d, %d) = %d, want %d", x.n, x.f, got, x.fast)
		}
		if got := size.Slow(x.n, x.f); got != x.slow {
			t.Errorf("Slow(%d, %d) = %d, want %d", x.n, x.f, got, x.slow)
		}
		if got := size.Back(x.n, x.f); got != x.back {
			t.Errorf("Back(%d, %d) = %d, want %d", x.n, x.f, got, x.back)
		}
		if got := size.Most(x.n); got != x.most {
			t.Errorf("Most(%d) = %d, want %d", x.n, got, x.most)
		}
	}
}

func TestP11SizesThatMayNotBe(t *testing.T) {
	for _, n := range around(0, api.MaxN) {
		for _, f := range around(0, api.MaxN) {
			if mayBe(n, f) {
				continue
			}
			if e := size.Check(n, f); e != api.ErrArg {
				t.Errorf("Check(%d, %d) = %v", n, f, e)
			}
			if a, b, c := size.Fast(n, f), size.Slow(n, f), size.Back(n, f); a != 0 || b != 0 || c != 0 {
				t.Errorf("Fast, Slow, Back of %d, %d: %d, %d, %d", n, f, a, b, c)
			}
		}
	}
}

func TestP11MostHangsOnNAlone(t *testing.T) {
	want := map[int]int{3: 2, 4: 3, 5: 3, 6: 4, 7: 4, 8: 5, 9: 5}
	for _, n := range around(0, api.MaxN) {
		if got := size.Most(n); got != want[n] {
			t.Errorf("Most(%d) = %d, want %d", n, got, want[n])
		}
	}
}

func TestP12Set(t *testing.T) {
	for i, x := range []struct {
		l    []int
		want int
	}{
		{nil, 0},
		{[]int{}, 0},
		{[]int{1}, 1},
		{[]int{9}, 256},
		{[]int{9, 1}, 257},
		{[]int{2, 2}, 2},
		{[]int{7, 2, 7, 2, 2}, 66},
		{[]int{9, 8, 7, 6, 5, 4, 3, 2, 1}, 511},
		{[]int{0, 10, -1, 64, 65, math.MinInt, math.MaxInt}, 0},
		{[]int{0, 3, 10, 1, -1}, 5},
		{[]int{math.MinInt, 5, math.MaxInt}, 16},
	} {
		given := slices.Clone(x.l)
		if got := size.Set(x.l...); got != x.want {
			t.Errorf("%d: Set = %d, want %d", i, got, x.want)
		}
		if !slices.Equal(given, x.l) {
			t.Errorf("%d: Set changed what it was given: %v", i, x.l)
		}
	}
}

func TestP12WhatIsInASet(t *testing.T) {
	for set := 0; set <= 511; set++ {
		var want []int
		for r := 1; r <= 9; r++ {
			in := set>>(r-1)%2 == 1
			if in {
				want = append(want, r)
			}
			if size.Has(set, r) != in {
				t.Errorf("Has(%d, %d) = %v", set, r, !in)
			}
		}
		if got := size.Count(set); got != len(want) {
			t.Errorf("Count(%d) = %d, want %d", set, got, len(want))
		}
		if got := size.List(set); !slices.Equal(got, want) {
			t.Errorf("List(%d) = %v, want %v", set, got, want)
		}
		if got := size.Set(size.List(set)...); got != set {
			t.Errorf("Set of List(%d) = %d", set, got)
		}
	}
}

func TestP12NoReplicaIsInNoSet(t *testing.T) {
	for _, set := range []int{0, 1, 256, 511} {
		for _, r := range []int{math.MinInt, -63, -1, 0, 10, 64, 65, math.MaxInt} {
			if size.Has(set, r) {
				t.Errorf("Has(%d, %d)", set, r)
			}
		}
	}
}

func TestP12NumbersThatAreNoSets(t *testing.T) {
	for _, set := range []int{math.MinInt, -512, -2, -1, 512, 513, 1023, math.MaxInt} {
		for _, r := range around(1, api.MaxN) {
			if size.Has(set, r) {
				t.Errorf("Has(%d, %d)", set, r)
			}
		}
		if got := size.Count(set); got != 0 {
			t.Errorf("Count(%d) = %d", set, got)
		}
		if got := size.List(set); len(got) != 0 {
			t.Errorf("List(%d) = %v", set, got)
		}
	}
}

func TestP12ListIsNewMemory(t *testing.T) {
	l := size.List(7)
	l[0] = 9
	if got := size.List(7); !slices.Equal(got, []int{1, 2, 3}) {
		t.Errorf("List(7) = %v", got)
	}
}

func TestP13Ring(t *testing.T) {
	for _, x := range []struct {
		n, f, self int
		want       []int
	}{
		{3, 1, 1, []int{1, 2}},
		{3, 1, 2, []int{2, 3}},
		{3, 1, 3, []int{1, 3}},
		{4, 1, 3, []int{1, 3, 4}},
		{5, 1, 1, []int{1, 2, 3}},
		{5, 1, 3, []int{3, 4, 5}},
		{5, 1, 4, []int{1, 4, 5}},
		{5, 1, 5, []int{1, 2, 5}},
		{5, 2, 3, []int{1, 3, 4, 5}},
		{8, 3, 8, []int{1, 2, 3, 4, 5, 6, 8}},
		{9, 1, 9, []int{1, 2, 3, 4, 9}},
		{9, 4, 1, []int{1, 2, 3, 4, 5, 6, 7, 8}},
		{9, 4, 9, []int{1, 2, 3, 4, 5, 6, 7, 9}},
	} {
		if got := size.List(size.Ring(x.n, x.f, x.self)); !slices.Equal(got, x.want) {
			t.Errorf("Ring(%d, %d, %d) has %v, want %v", x.n, x.f, x.self, got, x.want)
		}
	}
}

func TestP13RingOfThoseThatMayNotBe(t *testing.T) {
	for _, x := range sizes {
		for _, self := range []int{math.MinInt, -1, 0, x.n + 1, x.n + 2, 2 * x.n, math.MaxInt} {
			if got := size.Ring(x.n, x.f, self); got != 0 {
				t.Errorf("Ring(%d, %d, %d) = %d", x.n, x.f, self, got)
			}
		}
	}
	for _, n := range around(0, api.MaxN) {
		for _, f := range around(0, api.MaxN) {
			for _, self := range []int{1, 3, n} {
				if got := size.Ring(n, f, self); !mayBe(n, f) && got != 0 {
					t.Errorf("Ring(%d, %d, %d) = %d", n, f, self, got)
				}
			}
		}
	}
}

func TestP14AnyTwoSetsMeet(t *testing.T) {
	for n := 3; n <= api.MaxN; n++ {
		for a := range 1 << n {
			for b := range 1 << n {
				if got := size.Count(a & b); got < size.Count(a)+size.Count(b)-n {
					t.Fatalf("n %d: %d and %d meet in %d", n, a, b, got)
				}
			}
		}
	}
}

// leastMeet is in how many replicas any set of a of n meets any of b, at least.
func leastMeet(n, a, b int) int {
	least := n
	for x := range 1 << n {
		for y := range 1 << n {
			if size.Count(x) == a && size.Count(y) == b {
				least = min(least, size.Count(x&y))
			}
		}
	}
	return least
}

func TestP14QuorumsMeet(t *testing.T) {
	for _, x := range sizes {
		fast, slow, back, most := size.Fast(x.n, x.f), size.Slow(x.n, x.f), size.Back(x.n, x.f), size.Most(x.n)
		if got := leastMeet(x.n, fast, back); got < x.n/2 {
			t.Errorf("%v: Fast and Back meet in %d", x, got)
		}
		if got := leastMeet(x.n, slow, back); got < 1 {
			t.Errorf("%v: Slow and Back meet in %d", x, got)
		}
		if got := leastMeet(x.n, most, most); got < 1 {
			t.Errorf("%v: Most and Most meet in %d", x, got)
		}
		if fast-x.f != x.n/2 {
			t.Errorf("%v: Fast less f is %d", x, fast-x.f)
		}
		if fast < most || back < most {
			t.Errorf("%v: Fast %d, Back %d, Most %d", x, fast, back, most)
		}
	}
}

func TestP15RingHasSelfAndFastReplicas(t *testing.T) {
	for _, x := range sizes {
		for self := 1; self <= x.n; self++ {
			ring := size.Ring(x.n, x.f, self)
			if !size.Has(ring, self) {
				t.Errorf("Ring(%d, %d, %d) lacks %d", x.n, x.f, self, self)
			}
			if got := size.Count(ring); got != size.Fast(x.n, x.f) || got != x.fast {
				t.Errorf("Ring(%d, %d, %d) has %d replicas", x.n, x.f, self, got)
			}
			for r := x.n + 1; r <= api.MaxN; r++ {
				if size.Has(ring, r) {
					t.Errorf("Ring(%d, %d, %d) has %d", x.n, x.f, self, r)
				}
			}
			for i := range x.fast {
				if r := (self-1+i)%x.n + 1; !size.Has(ring, r) {
					t.Errorf("Ring(%d, %d, %d) lacks %d", x.n, x.f, self, r)
				}
			}
		}
	}
}
