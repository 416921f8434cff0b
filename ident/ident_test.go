package ident_test

import (
	"math"
	"math/rand"
	"slices"
	"testing"

	"rubato/api"
	"rubato/ident"
)

// far are the farthest numbers of the type, and those whose low bits look like small ones.
var far = []int{math.MinInt, math.MinInt + 1, -1 << 32, math.MinInt32, math.MaxInt32, 1<<32 + 11, math.MaxInt - 1, math.MaxInt}

// badBallots are no ballots, whoever asks; 0 is none either, but Next may be given it.
var badBallots = append([]int{-api.MaxBallot, -10, -2, -1, api.MaxBallot + 1, api.MaxBallot + 2, 2 * api.MaxBallot}, far...)

// badN are numbers of replicas that may not be.
var badN = append([]int{-9, -3, -1, 0, 1, 2, 10, 11, 20}, far...)

// noIds are no commands' numbers.
var noIds = append([]int{
	-999999, -123, -11, -10, -9, -1, 0, 1, 2, 9, 10, 20, 120, 100000, 999990,
	1000000, 1000001, 1000009, 1000011, 9999999,
}, far...)

func TestP21Make(t *testing.T) {
	for _, x := range []struct{ self, seq, id int }{
		{1, 1, 11},
		{9, 1, 19},
		{3, 12, 123},
		{2, 10, 102},
		{7, 4096, 40967},
		{1, 99999, 999991},
		{9, 99999, 999999},
	} {
		if id, e := ident.Make(x.self, x.seq); id != x.id || e != api.OK {
			t.Errorf("Make(%d, %d) = %d, %v, want %d", x.self, x.seq, id, e, x.id)
		}
		if e := ident.Check(x.id); e != api.OK {
			t.Errorf("Check(%d) = %v", x.id, e)
		}
		if self, seq := ident.Self(x.id), ident.Seq(x.id); self != x.self || seq != x.seq {
			t.Errorf("Self, Seq of %d: %d, %d, want %d, %d", x.id, self, seq, x.self, x.seq)
		}
	}
}

func TestP21MakeOfWhatMayNotBe(t *testing.T) {
	badSelf := append([]int{-9, -1, 0, 10, 11, 100}, far...)
	badSeq := append([]int{-99999, -1, 0, api.MaxSeq + 1, api.MaxSeq + 2}, far...)
	refused := func(self, seq int) {
		if id, e := ident.Make(self, seq); id != 0 || e != api.ErrArg {
			t.Errorf("Make(%d, %d) = %d, %v", self, seq, id, e)
		}
	}
	for _, self := range badSelf {
		for _, seq := range append([]int{1, 2, 12, api.MaxSeq}, badSeq...) {
			refused(self, seq)
		}
	}
	for _, seq := range badSeq {
		for self := 1; self <= 9; self++ {
			refused(self, seq)
		}
	}
}

func TestP21EveryNumber(t *testing.T) {
	made := map[int]bool{}
	for seq := 1; seq <= api.MaxSeq; seq++ {
		for self := 1; self <= api.MaxN; self++ {
			id, e := ident.Make(self, seq)
			if e != api.OK || ident.Self(id) != self || ident.Seq(id) != seq || made[id] {
				t.Fatalf("Make(%d, %d) = %d, %v", self, seq, id, e)
			}
			made[id] = true
		}
	}
	for id := -1000; id <= 1100000; id++ {
		if (ident.Check(id) == api.OK) != made[id] {
			t.Fatalf("Check(%d) = %v", id, ident.Check(id))
		}
	}
}

func TestP21NumbersOfNoCommand(t *testing.T) {
	for _, id := range noIds {
		if e := ident.Check(id); e != api.ErrId {
			t.Errorf("Check(%d) = %v", id, e)
		}
		if self, seq := ident.Self(id), ident.Seq(id); self != 0 || seq != 0 {
			t.Errorf("Self, Seq of %d: %d, %d", id, self, seq)
		}
	}
}

func TestP22Less(t *testing.T) {
	for _, x := range []struct {
		a, b api.Att
		want bool
	}{
		{api.Att{T: 1, Id: 11}, api.Att{T: 2, Id: 11}, true},
		{api.Att{T: 2, Id: 11}, api.Att{T: 1, Id: 11}, false},
		{api.Att{T: 1, Id: 12}, api.Att{T: 2, Id: 11}, true},
		{api.Att{T: 2, Id: 11}, api.Att{T: 1, Id: 12}, false},
		{api.Att{T: 5, Id: 11}, api.Att{T: 5, Id: 12}, true},
		{api.Att{T: 5, Id: 12}, api.Att{T: 5, Id: 11}, false},
		{api.Att{T: 5, Id: 19}, api.Att{T: 5, Id: 21}, true},
		{api.Att{T: 5, Id: 21}, api.Att{T: 5, Id: 19}, false},
		{api.Att{T: 5, Id: 12}, api.Att{T: 5, Id: 12}, false},
		{api.Att{}, api.Att{}, false},
		{api.Att{T: -1}, api.Att{}, true},
		{api.Att{Id: -1}, api.Att{}, true},
		{api.Att{T: math.MinInt}, api.Att{T: math.MaxInt}, true},
		{api.Att{T: math.MaxInt}, api.Att{T: math.MinInt}, false},
		{api.Att{Id: math.MinInt}, api.Att{Id: math.MaxInt}, true},
		{api.Att{Id: math.MaxInt}, api.Att{Id: math.MinInt}, false},
	} {
		if got := ident.Less(x.a, x.b); got != x.want {
			t.Errorf("Less(%v, %v) = %v", x.a, x.b, got)
		}
	}
}

func TestP22Sort(t *testing.T) {
	for i, x := range []struct{ l, want []api.Att }{
		{nil, nil},
		{[]api.Att{}, nil},
		{[]api.Att{{T: 3, Id: 11}}, []api.Att{{T: 3, Id: 11}}},
		{[]api.Att{{T: 3, Id: 11}, {T: 2, Id: 21}}, []api.Att{{T: 2, Id: 21}, {T: 3, Id: 11}}},
		{[]api.Att{{T: 2, Id: 21}, {T: 2, Id: 12}}, []api.Att{{T: 2, Id: 12}, {T: 2, Id: 21}}},
		{[]api.Att{{T: 2, Id: 12}, {T: 2, Id: 12}, {T: 2, Id: 12}}, []api.Att{{T: 2, Id: 12}, {T: 2, Id: 12}, {T: 2, Id: 12}}},
		{
			[]api.Att{{T: 4, Id: 11}, {T: 1, Id: 33}, {T: 4, Id: 11}, {T: 4, Id: 9}, {}, {T: 1, Id: 33}},
			[]api.Att{{}, {T: 1, Id: 33}, {T: 1, Id: 33}, {T: 4, Id: 9}, {T: 4, Id: 11}, {T: 4, Id: 11}},
		},
		{
			[]api.Att{{T: math.MaxInt, Id: 1}, {Id: math.MaxInt}, {Id: math.MinInt}, {T: math.MinInt, Id: 2}},
			[]api.Att{{T: math.MinInt, Id: 2}, {Id: math.MinInt}, {Id: math.MaxInt}, {T: math.MaxInt, Id: 1}},
		},
	} {
		if got := ident.Sort(x.l); !slices.Equal(got, x.want) {
			t.Errorf("%d: Sort = %v, want %v", i, got, x.want)
		}
	}
}

func TestP22SortIsNewMemory(t *testing.T) {
	for _, given := range [][]api.Att{
		{{T: 3, Id: 11}},
		{{T: 3, Id: 11}, {T: 2, Id: 21}, {T: 1, Id: 31}},
		{{T: 1, Id: 11}, {T: 2, Id: 21}, {T: 3, Id: 31}},
	} {
		whole := append(slices.Clone(given), api.Att{T: 7, Id: 77}, api.Att{T: 6, Id: 66})
		before := slices.Clone(whole)
		l := whole[:len(given)]
		got := ident.Sort(l)
		if !slices.Equal(whole, before) {
			t.Fatalf("Sort made %v of %v", whole, before)
		}
		for i := range got {
			got[i] = api.Att{T: -1, Id: -1}
		}
		_ = append(got, api.Att{T: -2, Id: -2})
		if !slices.Equal(whole, before) {
			t.Errorf("what Sort answered shares %v", whole)
		}
	}
	spare := []api.Att{{T: 7, Id: 77}}
	_ = append(ident.Sort(spare[:0]), api.Att{T: -2, Id: -2})
	if spare[0] != (api.Att{T: 7, Id: 77}) {
		t.Errorf("what Sort answered for no command shares %v", spare)
	}
}

func TestP23Owner(t *testing.T) {
	for _, x := range []struct{ ballot, n, want int }{
		{1, 3, 1}, {2, 3, 2}, {3, 3, 3}, {4, 3, 1}, {5, 3, 2}, {8, 3, 2},
		{1, 9, 1}, {9, 9, 9}, {10, 9, 1}, {18, 9, 9}, {19, 9, 1},
		{5, 5, 5}, {6, 5, 1}, {999999, 3, 3}, {1000000, 3, 1}, {1000000, 4, 4},
		{1000000, 5, 5}, {1000000, 6, 4}, {1000000, 7, 1}, {1000000, 8, 8}, {1000000, 9, 1},
	} {
		if got := ident.Owner(x.ballot, x.n); got != x.want {
			t.Errorf("Owner(%d, %d) = %d, want %d", x.ballot, x.n, got, x.want)
		}
	}
}

func TestP23OwnerOfWhatMayNotBe(t *testing.T) {
	for _, ballot := range append([]int{0}, badBallots...) {
		for n := 3; n <= 9; n++ {
			if got := ident.Owner(ballot, n); got != 0 {
				t.Errorf("Owner(%d, %d) = %d", ballot, n, got)
			}
		}
	}
	for _, n := range badN {
		for _, ballot := range append([]int{0, 1, 2, 9, 10, api.MaxBallot}, badBallots...) {
			if got := ident.Owner(ballot, n); got != 0 {
				t.Errorf("Owner(%d, %d) = %d", ballot, n, got)
			}
		}
	}
}

func TestP23Next(t *testing.T) {
	for _, x := range []struct{ ballot, self, n, want int }{
		{0, 2, 3, 5}, {5, 2, 3, 8}, {4, 2, 3, 5}, {6, 2, 3, 8}, {7, 2, 3, 8}, {8, 2, 3, 11},
		{0, 1, 3, 4}, {1, 1, 3, 4}, {3, 1, 3, 4}, {4, 1, 3, 7}, {0, 3, 3, 6}, {3, 3, 3, 6}, {6, 3, 3, 9},
		{0, 1, 9, 10}, {9, 1, 9, 10}, {10, 1, 9, 19}, {0, 9, 9, 18}, {9, 9, 9, 18}, {17, 9, 9, 18}, {18, 9, 9, 27},
		{999999, 1, 3, 1000000}, {999998, 3, 3, 999999}, {999997, 2, 3, 999998},
		{999997, 3, 3, 999999}, {999996, 1, 3, 999997}, {999997, 1, 3, 1000000},
		{999999, 1, 9, 1000000}, {999998, 9, 9, 999999}, {999991, 2, 9, 999992},
	} {
		if got, e := ident.Next(x.ballot, x.self, x.n); got != x.want || e != api.OK {
			t.Errorf("Next(%d, %d, %d) = %d, %v, want %d", x.ballot, x.self, x.n, got, e, x.want)
		}
	}
}

func TestP23NextAtTheLastBallots(t *testing.T) {
	for _, x := range []struct{ ballot, self, n int }{
		{1000000, 1, 3}, {999998, 2, 3}, {999999, 2, 3}, {1000000, 2, 3}, {999999, 3, 3}, {1000000, 3, 3},
		{1000000, 1, 9}, {999992, 2, 9}, {999999, 9, 9}, {1000000, 9, 9}, {1000000, 7, 8}, {1000000, 8, 8},
	} {
		if got, e := ident.Next(x.ballot, x.self, x.n); got != 0 || e != api.ErrLimit {
			t.Errorf("Next(%d, %d, %d) = %d, %v", x.ballot, x.self, x.n, got, e)
		}
	}
}

func TestP23NextOfWhatMayNotBe(t *testing.T) {
	refused := func(ballot, self, n int) {
		if got, e := ident.Next(ballot, self, n); got != 0 || e != api.ErrArg {
			t.Errorf("Next(%d, %d, %d) = %d, %v", ballot, self, n, got, e)
		}
	}
	// MaxBallot has no next one: ErrArg is told ahead of ErrLimit.
	ballots := []int{0, 1, 3, 9, 10, api.MaxBallot - 1, api.MaxBallot}
	for _, n := range badN {
		for _, self := range append([]int{-1, 0, 1, 2, 3, 9, 10, n}, far...) {
			for _, ballot := range append(ballots, badBallots...) {
				refused(ballot, self, n)
			}
		}
	}
	for n := 3; n <= 9; n++ {
		for _, self := range append([]int{-n, -1, 0, n + 1, n + 2, 2 * n}, far...) {
			for _, ballot := range append(ballots, badBallots...) {
				refused(ballot, self, n)
			}
		}
		for self := 1; self <= n; self++ {
			for _, ballot := range badBallots {
				refused(ballot, self, n)
			}
		}
	}
}

func TestP23First(t *testing.T) {
	for n := 3; n <= 9; n++ {
		for ballot := 1; ballot <= 30; ballot++ {
			if got := ident.First(ballot, n); got != (ballot <= n) {
				t.Errorf("First(%d, %d) = %v", ballot, n, got)
			}
		}
		for _, ballot := range append([]int{0, api.MaxBallot}, badBallots...) {
			if ident.First(ballot, n) {
				t.Errorf("First(%d, %d)", ballot, n)
			}
		}
	}
	for _, n := range badN {
		for _, ballot := range append([]int{0, 1, 2, 3, 9, 10, n, api.MaxBallot}, badBallots...) {
			if ident.First(ballot, n) {
				t.Errorf("First(%d, %d)", ballot, n)
			}
		}
	}
}

// someAtts are commands at times near and far, all of them different.
func someAtts() []api.Att {
	numbers := []int{math.MinInt, math.MinInt + 1, -12, -1, 0, 1, 11, 12, math.MaxInt - 1, math.MaxInt}
	var l []api.Att
	for _, at := range numbers {
		for _, id := range numbers {
			l = append(l, api.Att{T: at, Id: id})
		}
	}
	return l
}

func TestP24OrderIsTotal(t *testing.T) {
	l := someAtts()
	for i, a := range l {
		for j, b := range l {
			// someAtts tells them in their order.
			if got := ident.Less(a, b); got != (i < j) {
				t.Fatalf("Less(%v, %v) = %v", a, b, got)
			}
		}
	}
}

func TestP24SortIsTheOnlyRow(t *testing.T) {
	chance := rand.New(rand.NewSource(24))
	all := someAtts()
	for round := range 300 {
		var row []api.Att
		for _, a := range all {
			for range chance.Intn(4) { // some are missing, some are there several times
				row = append(row, a)
			}
		}
		mixed := slices.Clone(row)
		chance.Shuffle(len(mixed), func(i, j int) { mixed[i], mixed[j] = mixed[j], mixed[i] })
		if got := ident.Sort(mixed); !slices.Equal(got, row) {
			t.Fatalf("round %d: Sort of %v = %v", round, mixed, got)
		}
	}
}

func TestP25Next(t *testing.T) {
	for n := 3; n <= 9; n++ {
		for self := 1; self <= n; self++ {
			// From the last ballot down, the one to come is always known.
			want, wantErr := 0, api.ErrLimit
			for ballot := api.MaxBallot; ballot >= 0; ballot-- {
				if got, e := ident.Next(ballot, self, n); got != want || e != wantErr {
					t.Fatalf("Next(%d, %d, %d) = %d, %v, want %d, %v", ballot, self, n, got, e, want, wantErr)
				}
				if ident.Owner(ballot, n) == self && !ident.First(ballot, n) {
					want, wantErr = ballot, api.OK
				}
			}
			if want != n+self {
				t.Errorf("the least of %d of %d is %d", self, n, want)
			}
		}
	}
}

func TestP25EachBallotHasOneOwner(t *testing.T) {
	for n := 3; n <= 9; n++ {
		for ballot := 1; ballot <= api.MaxBallot; ballot++ {
			// Around the ring, the first replica owning the first ballot.
			if got, want := ident.Owner(ballot, n), (ballot+n-1)%n+1; got != want {
				t.Fatalf("Owner(%d, %d) = %d, want %d", ballot, n, got, want)
			}
		}
	}
	for n := 3; n <= 9; n++ {
		for ballot := n + 1; ballot <= 20*n; ballot++ {
			var hit []int
			for self := 1; self <= n; self++ {
				if got, e := ident.Next(ballot-1, self, n); got == ballot && e == api.OK {
					hit = append(hit, self)
				}
			}
			if !slices.Equal(hit, []int{ident.Owner(ballot, n)}) {
				t.Errorf("ballot %d of %d comes next for %v", ballot, n, hit)
			}
		}
	}
}
