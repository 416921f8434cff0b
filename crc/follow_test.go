package crc_test

import (
	"math/rand"
	"testing"

	"rubato/api"
	"rubato/crc"
)

// The sum of two texts is that of the first one, gone on with by the second one; so from each sum on.
func TestP73On(t *testing.T) {
	chance := rand.New(rand.NewSource(73))
	l := textsAnd(chance, 60, 40)
	for _, a := range l {
		for _, b := range []string{"", "\x00", "\xff", "abcd", l[chance.Intn(len(l))], l[chance.Intn(len(l))], a} {
			if sum, want := crc.On(crc.Of(a), b), crc.Of(a+b); sum != want {
				t.Fatalf("On by %s behind %s is %08x, want %08x", tohex(b), tohex(a), sum, want)
			}
			from := chance.Uint32()
			if sum, want := crc.On(crc.On(from, a), b), crc.On(from, a+b); sum != want {
				t.Fatalf("On from %08x by %s and %s is %08x, want %08x", from, tohex(a), tohex(b), sum, want)
			}
		}
	}
}

// A text may be parted anywhere, and into many.
func TestP73Parts(t *testing.T) {
	chance := rand.New(rand.NewSource(173))
	for range 300 {
		s := anyText(chance, 60)
		for i := range len(s) + 1 {
			if sum := crc.On(crc.Of(s[:i]), s[i:]); sum != crc.Of(s) {
				t.Fatalf("%s, parted at %d: %08x, want %08x", tohex(s), i, sum, crc.Of(s))
			}
		}
		sum := crc.Of("")
		for i := range len(s) {
			sum = crc.On(sum, s[i:i+1])
		}
		if sum != crc.Of(s) {
			t.Fatalf("%s, byte by byte: %08x, want %08x", tohex(s), sum, crc.Of(s))
		}
	}
}

func TestP73Zero(t *testing.T) {
	for _, s := range textsAnd(rand.New(rand.NewSource(273)), 4000, 100) {
		if sum := crc.Of(crc.Seal(s)); sum != 0 {
			t.Fatalf("the sum of Seal(%s) is %08x", tohex(s), sum)
		}
	}
	for _, sum := range sums() {
		if got := crc.On(sum, crc.Four(sum)); got != 0 {
			t.Fatalf("%08x goes on by its own bytes to %08x", sum, got)
		}
	}
}

// changed is a text with the bits of a mask changed; the mask's highest one is the text's bit at a place, of each byte the highest first.
func changed(s string, at int, mask uint32) string {
	b := []byte(s)
	for i := range 32 {
		if mask<<i>>31 == 1 {
			place := at + i
			b[place/8] ^= 0x80 >> (place % 8)
		}
	}
	return string(b)
}

// masks are ways to change bits within 32: one, two, the first and the last, all up to one and from one on, and others.
func masks(r *rand.Rand) []uint32 {
	l := []uint32{0xffffffff, 0x80000001, 0x04c11db7, 0x82608edb, 0xaaaaaaaa, 0x55555555, 0xff0000ff, 0x00ffff00}
	for i := range 32 {
		l = append(l, 1<<i, 0x80000000|1<<i, 1|1<<i, 0xffffffff<<i, 0xffffffff>>i, 3<<i, 0xff<<i)
	}
	for range 60 {
		l = append(l, 1+uint32(r.Int63n(0xffffffff)), 0x80000001|r.Uint32())
	}
	return l
}

func TestP74Burst(t *testing.T) {
	chance := rand.New(rand.NewSource(74))
	ways := masks(chance)
	l := []string{"", "\x00", "\xff", "abc", "123456789", "\x00\x00\x00\x00\x00\x00\x00\x00", "\xff\xff\xff\xff", "\x04\xc1\x1d\xb7"}
	for range 20 {
		l = append(l, anyText(chance, 30))
	}
	for _, text := range l {
		s := crc.Seal(text)
		for at := range len(s)*8 - 31 {
			for _, mask := range ways {
				wantShut(t, changed(s, at, mask), api.ErrSum)
			}
		}
	}
}

// All ways to change up to 16 bits that stand side by side, of one text, at each place.
func TestP74BurstAll(t *testing.T) {
	s := crc.Seal("\x80a")
	for at := range len(s)*8 - 31 {
		for way := 1; way < 1<<16; way++ {
			wantShut(t, changed(s, at, uint32(way)<<16), api.ErrSum)
		}
	}
	for way := 1; way < 1<<16; way++ {
		wantShut(t, changed(s, len(s)*8-32, uint32(way)), api.ErrSum)
	}
}

// A long text, at its ends and drawn places.
func TestP74BurstLong(t *testing.T) {
	chance := rand.New(rand.NewSource(174))
	b := make([]byte, 20000)
	chance.Read(b)
	s := crc.Seal(string(b))
	last := len(s)*8 - 32
	for _, at := range []int{0, 1, 7, 8, last / 2, last - 33, last - 32, last - 31, last - 1, last} {
		for range 4 {
			wantShut(t, changed(s, at, 1+uint32(chance.Int63n(0xffffffff))), api.ErrSum)
			wantShut(t, changed(s, chance.Intn(last+1), 0x80000001|chance.Uint32()), api.ErrSum)
		}
	}
}

// The bound is sharp: 33 bits may be changed, in one way, so that the sum stays; where more than they are changed so, too.
func TestP74Beyond(t *testing.T) {
	chance := rand.New(rand.NewSource(274))
	for range 200 {
		s := crc.Seal(anyText(chance, 30) + "a")
		at := chance.Intn(len(s)*8 - 32)
		other := changed(changed(s, at, 0x80000000), at+1, 0x04c11db7)
		wantOpen(t, other, other[:len(other)-4])
	}
}
