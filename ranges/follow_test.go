package ranges_test

import (
	"math"
	"math/rand"
	"slices"
	"testing"

	"rubato/api"
	"rubato/ranges"
)

// A few numbers are held as bits here: bit i stands for the number from and i.
const few = 7

// form makes the one form of a set of such numbers.
func form(bits uint, from int) []api.Range {
	var l []api.Range
	for i := 0; i < few; i++ {
		if bits>>i&1 == 0 {
			continue
		}
		if len(l) > 0 && l[len(l)-1].Hi == from+i-1 {
			l[len(l)-1].Hi++
		} else {
			l = append(l, api.Range{Lo: from + i, Hi: from + i})
		}
	}
	return l
}

// mask makes bits of those of such numbers that lie from lo to hi.
func mask(from, lo, hi int) uint {
	m := uint(0)
	for i := 0; i < few; i++ {
		if lo <= from+i && from+i <= hi {
			m |= 1 << i
		}
	}
	return m
}

// eachFew goes through all sets of a few numbers, at both ends of those that may be, and tells the numbers around them.
func eachFew(do func(bits uint, from int, around []int)) {
	for _, from := range []int{1, last + 1 - few} {
		around := []int{math.MinInt, math.MaxInt}
		for n := from - 2; n <= from+few+1; n++ {
			around = append(around, n)
		}
		for bits := uint(0); bits < 1<<few; bits++ {
			do(bits, from, around)
		}
	}
}

func TestP44AddHasWhatOneOfBothHas(t *testing.T) {
	eachFew(func(bits uint, from int, around []int) {
		l := form(bits, from)
		for _, lo := range around {
			for _, hi := range around {
				// Beyond the few there are more numbers, which these ranges have too.
				if lo < from && from > 1 || hi >= from+few && from == 1 {
					continue
				}
				want := form(bits|mask(from, lo, hi), from)
				wantRanges(t, ranges.Add(l, api.Range{Lo: lo, Hi: hi}), want, "Add", l, lo, hi)
			}
		}
		for more := uint(0); more < 1<<few; more++ {
			wantRanges(t, ranges.Add(l, form(more, from)...), form(bits|more, from), "Add", l, form(more, from))
		}
	})
}

func TestP44AddInAnyOrder(t *testing.T) {
	r := rand.New(rand.NewSource(2))
	for range 3000 {
		l, more := randomSet(r), randomRanges(r)
		want := ranges.Add(l, more...)
		mixed := append(slices.Clone(more), more[:r.Intn(len(more)+1)]...)
		r.Shuffle(len(mixed), func(i, k int) { mixed[i], mixed[k] = mixed[k], mixed[i] })
		wantRanges(t, ranges.Add(l, mixed...), want, "Add in another order", l, mixed)
		one := l
		for _, m := range mixed {
			one = ranges.Add(one, m)
		}
		wantRanges(t, one, want, "Add one by one", l, mixed)
		wantRanges(t, ranges.Add(want, mixed...), want, "Add again", want, mixed)
		wantRanges(t, ranges.Add(nil, append(mixed, l...)...), want, "Add to none", mixed, l)
		for _, n := range append(ends(append(slices.Clone(more), l...)), 0, 1, last) {
			in := false
			for _, x := range append(slices.Clone(more), l...) {
				in = in || x.Lo <= n && n <= x.Hi && 1 <= n && n <= last
			}
			if ranges.Has(want, n) != in {
				t.Fatalf("Has(%v, %d) = %v, of %v and %v", want, n, !in, l, more)
			}
		}
	}
}

func randomSet(r *rand.Rand) []api.Range {
	l := []api.Range{}
	for lo := 1 + r.Intn(5); lo < 60 && len(l) < r.Intn(12); lo += 2 + r.Intn(6) {
		hi := lo + r.Intn(5)
		l = append(l, api.Range{Lo: lo, Hi: hi})
		lo = hi
	}
	return l
}

func randomRanges(r *rand.Rand) []api.Range {
	l := []api.Range{}
	for range r.Intn(9) {
		lo := r.Intn(70) - 3
		l = append(l, api.Range{Lo: lo, Hi: lo + r.Intn(8) - 2})
	}
	if r.Intn(5) == 0 {
		l = append(l, api.Range{Lo: last - r.Intn(3), Hi: last + r.Intn(3)})
	}
	return l
}

func TestP45PrefixIsUpToWhereAllAre(t *testing.T) {
	eachFew(func(bits uint, from int, around []int) {
		l := form(bits, from)
		for _, base := range around {
			p := ranges.Prefix(l, base)
			if p < base {
				t.Fatalf("Prefix(%v, %d) = %d", l, base, p)
			}
			for n := base; n < p; n++ {
				if !ranges.Has(l, n+1) {
					t.Fatalf("Prefix(%v, %d) = %d, without %d", l, base, p, n+1)
				}
			}
			if p == math.MaxInt {
				continue
			}
			if ranges.Has(l, p+1) {
				t.Fatalf("Prefix(%v, %d) = %d, with %d", l, base, p, p+1)
			}
			if p < 0 || p >= last {
				continue
			}
			if more := ranges.Prefix(ranges.Add(l, api.Range{Lo: p + 1, Hi: p + 1}), base); more <= p {
				t.Fatalf("Prefix(%v, %d) = %d, and with %d it is %d", l, base, p, p+1, more)
			}
		}
	})
}

func TestP45CutLessAndGapsHaveJustWhatIsLeft(t *testing.T) {
	eachFew(func(bits uint, from int, around []int) {
		l := form(bits, from)
		for _, lo := range around {
			wantRanges(t, ranges.Cut(l, lo), form(bits&^mask(from, math.MinInt, lo), from), "Cut", l, lo)
			for _, hi := range around {
				r := api.Range{Lo: lo, Hi: hi}
				wantRanges(t, ranges.Less(l, r), form(bits&^mask(from, lo, hi), from), "Less", l, r)
				if lo < from && from > 1 || hi >= from+few && from == 1 {
					continue
				}
				wantRanges(t, ranges.Gaps(l, lo, hi), form(^bits&mask(from, lo, hi), from), "Gaps", l, r)
			}
		}
	})
}

// What lacks and what is there make all, and what is left and what was taken make what was.
func TestP45TogetherTheyMakeAll(t *testing.T) {
	r := rand.New(rand.NewSource(3))
	for range 3000 {
		l := ranges.Add(randomSet(r), randomRanges(r)...)
		gaps := ranges.Gaps(l, math.MinInt, math.MaxInt)
		wantRanges(t, ranges.Add(l, gaps...), of(1, last), "Add of the gaps", l)
		wantRanges(t, ranges.Gaps(gaps, 1, last), l, "Gaps of the gaps", l)
		if ranges.Check(gaps) != api.OK || ranges.Count(l)+ranges.Count(gaps) != last {
			t.Fatalf("Gaps of %v: %v", l, gaps)
		}
		lo := r.Intn(80) - 5
		x := api.Range{Lo: lo, Hi: lo + r.Intn(30) - 3}
		left := ranges.Less(l, x)
		lacks := ranges.Gaps(left, x.Lo, x.Hi)
		if x.Lo <= x.Hi {
			wantRanges(t, lacks, ranges.Add(nil, x), "Gaps of what was taken away", l, x)
		}
		for _, part := range ranges.Gaps(gaps, x.Lo, x.Hi) {
			left = ranges.Add(left, part)
		}
		wantRanges(t, left, l, "Less and what was taken", l, x)
		wantRanges(t, ranges.Cut(l, x.Hi), ranges.Less(l, api.Range{Lo: math.MinInt, Hi: x.Hi}), "Cut", l, x.Hi)
	}
}

// Rule 4: what comes in stays as it was, its spare room too, and what goes out shares nothing with it.
func TestP42NewMemory(t *testing.T) {
	full := every(1000, 1, 1, 3)
	for i, call := range []func(l, more []api.Range) []api.Range{
		func(l, more []api.Range) []api.Range { return ranges.Add(l) },
		func(l, more []api.Range) []api.Range { return ranges.Add(l, more...) },
		func(l, more []api.Range) []api.Range { return ranges.Add(nil, more...) },
		func(l, more []api.Range) []api.Range { return ranges.Add(l, l...) },
		func(l, more []api.Range) []api.Range { return ranges.Add(l, of(0, 0, 6, 5)...) },
		func(l, more []api.Range) []api.Range { return ranges.Add(l, of(3, 3, 7, 7, 11, 11)...) },
		func(l, more []api.Range) []api.Range { return ranges.Cut(l, 0) },
		func(l, more []api.Range) []api.Range { return ranges.Cut(l, 5) },
		func(l, more []api.Range) []api.Range { return ranges.Cut(l, math.MinInt) },
		func(l, more []api.Range) []api.Range { return ranges.Less(l, api.Range{Lo: 6, Hi: 5}) },
		func(l, more []api.Range) []api.Range { return ranges.Less(l, api.Range{Lo: 2, Hi: 2}) },
		func(l, more []api.Range) []api.Range { return ranges.Less(l, api.Range{Lo: 6, Hi: 6}) },
		func(l, more []api.Range) []api.Range { return ranges.Less(l, api.Range{Lo: math.MinInt, Hi: 1}) },
		func(l, more []api.Range) []api.Range { return ranges.Less(l, api.Range{Lo: 9, Hi: math.MaxInt}) },
		func(l, more []api.Range) []api.Range { return ranges.Gaps(l, 1, 400) },
		func(l, more []api.Range) []api.Range { return ranges.Gaps(l, 2, 2) },
	} {
		for _, set := range [][]api.Range{of(1, 1, 5, 7, 9, 9, 20, 40), full} {
			roomy := append(slices.Clone(set), of(-1, -2, -3, -4, -5, -6)...)
			l := roomy[:len(set)]
			more := append(of(50, 60, 2, 3, 8, 8), of(-7, -8, -9, -10)...)
			out := call(l, more[:3])
			again := slices.Clone(out)
			if !slices.Equal(roomy, append(slices.Clone(set), of(-1, -2, -3, -4, -5, -6)...)) || !slices.Equal(more, of(50, 60, 2, 3, 8, 8, -7, -8, -9, -10)) {
				t.Errorf("call %d changes what came in", i)
			}
			for k := range out[:cap(out)] {
				out[:cap(out)][k] = api.Range{Lo: -100, Hi: -200}
			}
			if !slices.Equal(roomy, append(slices.Clone(set), of(-1, -2, -3, -4, -5, -6)...)) || !slices.Equal(more, of(50, 60, 2, 3, 8, 8, -7, -8, -9, -10)) {
				t.Errorf("what call %d hands out is what came in", i)
			}
			if !slices.Equal(call(l, more[:3]), again) {
				t.Errorf("call %d answers otherwise another time", i)
			}
		}
	}
}

// What is told of a set is a set.
func TestP42AnswersAreSets(t *testing.T) {
	for _, l := range sets() {
		for _, n := range ends(l) {
			for _, m := range []int{n, n + 1, n + 600, math.MaxInt} {
				r := api.Range{Lo: n, Hi: m}
				for name, out := range map[string][]api.Range{
					"Add": ranges.Add(l, r), "Cut": ranges.Cut(l, n), "Less": ranges.Less(l, r), "Gaps": ranges.Gaps(l, n, m),
				} {
					if e := ranges.Check(out); e != api.OK {
						t.Errorf("%s(%v, %v) is no set: %v", name, short(l), r, short(out))
					}
				}
			}
		}
	}
}
