package num_test

import (
	"math"
	"math/rand"
	"slices"
	"testing"

	"rubato/api"
	"rubato/num"
)

// anyNumber makes numbers of all lengths alike.
func anyNumber(r *rand.Rand) int { return r.Int() >> r.Intn(63) }

func anyText(r *rand.Rand, most int) string {
	b := make([]byte, r.Intn(most+1))
	r.Read(b)
	return string(b)
}

// What was put is got, wherever it stands.
func TestP54Back(t *testing.T) {
	for _, n := range append(numbers(), upTo(70000)...) {
		s := put(t, n)
		wantGot(t, s, 0, n, len(s), api.OK)
		wantGot(t, "\x81"+s+"\x81", 1, n, 1+len(s), api.OK)
	}
	r := rand.New(rand.NewSource(54))
	for range 200000 {
		n, ahead, behind := anyNumber(r), anyText(r, 12), anyText(r, 12)
		s := put(t, n)
		wantGot(t, ahead+s+behind, len(ahead), n, len(ahead)+len(s), api.OK)
	}
}

// Numbers that are put one behind the other are got one behind the other.
func TestP54BackInRow(t *testing.T) {
	r := rand.New(rand.NewSource(154))
	for range 3000 {
		l := make([]int, r.Intn(40))
		for i := range l {
			l[i] = anyNumber(r)
		}
		s, at := put(t, l...), 0
		for _, n := range l {
			wantGot(t, s, at, n, at+num.Size(n), api.OK)
			at += num.Size(n)
		}
		wantGot(t, s, at, 0, 0, api.ErrShort)
		if at != len(s) {
			t.Fatalf("%v end at %d of %d", l, at, len(s))
		}
		ahead, behind := anyText(r, 9), anyText(r, 9)
		whole := row(t, l...)
		wantRow(t, ahead+whole+behind, len(ahead), len(l), l, len(ahead)+len(whole), api.OK)
	}
}

// least holds that what is got at a place was put so, and tells whether anything is got.
func least(t *testing.T, s string, at int) bool {
	n, to, e := num.Get(s, at)
	if e != api.OK {
		if n != 0 || to != 0 {
			t.Fatalf("Get(%s, %d) = %d, %d, %v", tohex(s), at, n, to, e)
		}
		return false
	}
	if n < 0 || to <= at || to > len(s) {
		t.Fatalf("Get(%s, %d) = %d, %d", tohex(s), at, n, to)
	}
	if p, e := num.Put(n); e != api.OK || p != s[at:to] {
		t.Fatalf("Get(%s, %d) = %d, %d, but Put(%d) = %s, %v", tohex(s), at, n, to, n, tohex(p), e)
	}
	return true
}

// Of all texts of up to three bytes, those that begin with a number's bytes are got as it, and no others.
func TestP55LeastAll(t *testing.T) {
	got := [4]int{}
	b := [3]byte{}
	for i := range 1 << 24 {
		b[0], b[1], b[2] = byte(i>>16), byte(i>>8), byte(i)
		// One of 256 has all that matters to a text of two bytes, and one of 65536 to one of one.
		for size := 3; size >= 1; size-- {
			if size < 3 && b[2] != 0 || size < 2 && b[1] != 0 {
				break
			}
			if least(t, string(b[:size]), 0) {
				got[size]++
			}
		}
	}
	// Those of one byte; of two, with a byte more; of three.
	if want := [4]int{0, 128, 128*256 + 128, (128*256+128)*256 + 255*256}; got != want {
		t.Errorf("%v texts begin with a number, want %v", got, want)
	}
}

// Random texts, and numbers' bytes with one of them changed, taken out, or doubled.
func TestP55LeastRandom(t *testing.T) {
	r := rand.New(rand.NewSource(55))
	some := 0
	for range 300000 {
		b := []byte(put(t, anyNumber(r)))
		switch at := r.Intn(len(b)); r.Intn(5) {
		case 0:
			b[at] = byte(r.Int())
		case 1:
			b = slices.Delete(b, at, at+1)
		case 2:
			b = slices.Insert(b, at, b[at])
		case 3:
			b = slices.Insert(b, min(1, len(b)), 0)
			b[0]++
		default:
			b[0] = byte(128 + r.Intn(10))
			b = append(b, anyText(r, 9)...)
		}
		for at := 0; at <= len(b); at++ {
			if least(t, string(b), at) {
				some++
			}
		}
	}
	if some == 0 {
		t.Error("nothing was got")
	}
}

// No two numbers have the same bytes, and none's are the beginning of another's.
func TestP55LeastApart(t *testing.T) {
	all := append(numbers(), upTo(1000)...)
	slices.Sort(all)
	all = slices.Compact(all)
	for _, a := range all {
		for _, b := range all {
			if p, q := put(t, a), put(t, b); a != b && len(q) >= len(p) && q[:len(p)] == p {
				t.Fatalf("the bytes of %d, %s, begin with those of %d, %s", b, tohex(q), a, tohex(p))
			}
		}
	}
}

// A number with a 0 ahead of its bytes, or of fewer than 128 in more than one, is not got.
func TestP55LeastLonger(t *testing.T) {
	for _, n := range append(numbers(), upTo(3000)...) {
		for more := num.Size(n); more <= 8; more++ {
			b := []byte{byte(128 + more)}
			for i := more - 1; i >= 0; i-- {
				b = append(b, byte(n>>(8*i)))
			}
			wantGot(t, string(b), 0, 0, 0, api.ErrForm)
		}
	}
	// Whatever the number: what is beyond the greatest int is not got as another one.
	for _, n := range []uint64{1 << 63, 1<<63 + 5, 1<<63 + 127, 1<<63 + 128, math.MaxUint64} {
		b := []byte{128 + 8}
		for i := 7; i >= 0; i-- {
			b = append(b, byte(n>>(8*i)))
		}
		wantGot(t, string(b), 0, 0, 0, api.ErrBig)
	}
}

// A row that is got was told so: no other bytes are got as its numbers.
func TestP55LeastRow(t *testing.T) {
	r := rand.New(rand.NewSource(255))
	some := 0
	for range 200000 {
		l := make([]int, r.Intn(6))
		for i := range l {
			l[i] = anyNumber(r)
		}
		b := []byte(row(t, l...))
		if r.Intn(4) > 0 {
			b[r.Intn(len(b))] = byte(r.Int())
		}
		most := r.Intn(8)
		got, to, e := num.Unrow(string(b), 0, most)
		if e != api.OK {
			if len(got) > 0 || to != 0 {
				t.Fatalf("Unrow(%s) = %v, %d, %v", tohex(string(b)), got, to, e)
			}
			continue
		}
		some++
		if p := row(t, got...); len(got) > most || p != string(b[:to]) {
			t.Fatalf("Unrow(%s, 0, %d) = %v, %d, whose bytes are %s", tohex(string(b)), most, got, to, tohex(p))
		}
	}
	if some == 0 {
		t.Error("nothing was got")
	}
}
