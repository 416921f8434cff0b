package crc_test

import (
	"encoding/hex"
	"hash/crc32"
	"math/bits"
	"math/rand"
	"strconv"
	"strings"
	"testing"

	"rubato/crc"
)

// tohex writes the bytes of a text; of a long one its beginning.
func tohex(s string) string {
	if len(s) > 60 {
		return hex.EncodeToString([]byte(s[:60])) + ".. (" + strconv.Itoa(len(s)) + " bytes)"
	}
	return hex.EncodeToString([]byte(s))
}

// stepped is a sum behind a text, by the chapter's words, bit by bit.
func stepped(sum uint32, s string) uint32 {
	for _, b := range []byte(s) {
		sum ^= uint32(b) << 24
		for range 8 {
			highest := sum >> 31
			sum <<= 1
			if highest == 1 {
				sum ^= 0x04c11db7
			}
		}
	}
	return sum
}

// mirrored is the sum of a text, told by Go's own sums, which go the other way round.
func mirrored(s string) uint32 {
	b := []byte(s)
	for i := range b {
		b[i] = bits.Reverse8(b[i])
	}
	return bits.Reverse32(^crc32.ChecksumIEEE(b))
}

// sums are sums to go on from: the ends, single bits, all but one, and others between.
func sums() []uint32 {
	l := []uint32{0, 0xffffffff, 0x04c11db7, 0x0376e6e7, 0x12345678, 0x7fffffff, 0x80000000, 0x0fffffff, 0xf0000000}
	for i := range 32 {
		l = append(l, 1<<i, ^uint32(1<<i))
	}
	return l
}

// texts are the edges: no byte, each single one, few, no valid UTF-8, zeros ahead and behind, many.
func texts() []string {
	l := []string{
		"", "123456789", "abc", "abcd", "abcde", "\x00\x00\x00", "\x00\x00\x00\x00", "\x00\x00\x00\x00\x00", "\xff\xff\xff", "\xff\xff\xff\xff", "\xff\xff\xff\xff\xff",
		"\xff\xfe\xc0", "h\xc3\xa9", "\xc3", "\xed\xa0\x80\x80", "\x00a", "a\x00", "a\x00\x00\x00\x00", "\x01\x02\x03\x04", "\x04\xc1\x1d\xb7", "\x01\x04\xc1\x1d\xb7",
		strings.Repeat("a", 20000), strings.Repeat("\x00", 70000), strings.Repeat("\xff\x00\x80\x7f", 40000),
	}
	for b := range 256 {
		l = append(l, string([]byte{byte(b)}))
	}
	return l
}

func anyText(r *rand.Rand, most int) string {
	b := make([]byte, r.Intn(most+1))
	r.Read(b)
	return string(b)
}

// textsAnd are the edges, and as many drawn ones.
func textsAnd(r *rand.Rand, count, most int) []string {
	l := texts()
	for range count {
		l = append(l, anyText(r, 1+r.Intn(most)))
	}
	return l
}

func TestP71Example(t *testing.T) {
	if sum := crc.Of("123456789"); sum != 0x0376e6e7 {
		t.Errorf("%08x, want 0376e6e7", sum)
	}
}

// Sums that were worked out elsewhere.
func TestP71Of(t *testing.T) {
	for _, x := range []struct {
		s    string
		want uint32
	}{
		{"", 0xffffffff},
		{"\x00", 0x4e08bfb4},
		{"\x80", 0x27045f5a},
		{"\xff", 0xffffff00},
		{"a", 0xe66c6494},
		{"abc", 0x9b73448c},
		{"h\xc3\xa9", 0x9658e51e},
		{"\xff\xfe\xc0", 0xc16411f1},
		{"\x00\x00\x00\x00", 0xc704dd7b},
		{"\xff\xff\xff\xff", 0x00000000},
		{"abcd", 0xc2b3ccb4},
		{"\x00\x00\x00\x00\x00", 0x4710bb9c},
		{"abcde", 0x5ca4b20b},
		{strings.Repeat("a", 20000), 0x5d9944c1},
	} {
		for range 2 {
			if sum := crc.Of(x.s); sum != x.want {
				t.Errorf("Of(%s) = %08x, want %08x", tohex(x.s), sum, x.want)
			}
		}
	}
}

func TestP71OfWords(t *testing.T) {
	l := textsAnd(rand.New(rand.NewSource(71)), 6000, 600)
	for n := range 1 << 16 {
		l = append(l, string([]byte{byte(n >> 8), byte(n)}))
	}
	for _, s := range l {
		want := stepped(0xffffffff, s)
		if sum := crc.Of(s); sum != want || sum != mirrored(s) {
			t.Fatalf("Of(%s) = %08x, want %08x, or %08x", tohex(s), sum, want, mirrored(s))
		}
	}
}

func TestP71On(t *testing.T) {
	for _, x := range []struct {
		sum  uint32
		s    string
		want uint32
	}{
		{0, "", 0},
		{0, "\x00", 0},
		{0, "\x00\x00\x00\x00\x00\x00", 0},
		{0, "\x01", 0x04c11db7},
		{0, "a", 0xa864db20},
		{0, "123456789", 0x89a1897f},
		{0xffffffff, "", 0xffffffff},
		{0xffffffff, "123456789", 0x0376e6e7},
		{0x12345678, "", 0x12345678},
		{0x01000000, "\x00", 0x04c11db7},
		{0x01000000, "\x01", 0},
		{0x12345678, "\x12", 0x34567800},
		{0x00ffffff, "\x00", 0xffffff00},
	} {
		if sum := crc.On(x.sum, x.s); sum != x.want {
			t.Errorf("On(%08x, %s) = %08x, want %08x", x.sum, tohex(x.s), sum, x.want)
		}
	}
}

// Each sum goes on by each byte, and by longer texts.
func TestP71OnWords(t *testing.T) {
	chance := rand.New(rand.NewSource(171))
	from := sums()
	for range 60 {
		from = append(from, chance.Uint32())
	}
	for _, s := range textsAnd(chance, 60, 40) {
		if len(s) > 1000 {
			s = s[:1000]
		}
		for _, sum := range from {
			if got, want := crc.On(sum, s), stepped(sum, s); got != want {
				t.Fatalf("On(%08x, %s) = %08x, want %08x", sum, tohex(s), got, want)
			}
		}
	}
}

func TestP71Four(t *testing.T) {
	for _, x := range []struct {
		sum  uint32
		want string
	}{
		{0, "00000000"},
		{0xffffffff, "ffffffff"},
		{0x12345678, "12345678"},
		{0xfedcba98, "fedcba98"},
		{0x0376e6e7, "0376e6e7"},
		{0x00345678, "00345678"},
		{0x12005678, "12005678"},
		{0x12340078, "12340078"},
		{0x12345600, "12345600"},
		{0x00000001, "00000001"},
		{0x00000100, "00000100"},
		{0x00010000, "00010000"},
		{0x01000000, "01000000"},
		{0x80c2a9ff, "80c2a9ff"},
	} {
		if s := crc.Four(x.sum); tohex(s) != x.want {
			t.Errorf("Four(%08x) = %s, want %s", x.sum, tohex(s), x.want)
		}
	}
}

// The four bytes, the highest first, are the sum's digits to the base 256.
func TestP71FourAny(t *testing.T) {
	chance := rand.New(rand.NewSource(271))
	l := sums()
	for range 20000 {
		l = append(l, chance.Uint32()>>chance.Intn(33))
	}
	for _, sum := range l {
		s := crc.Four(sum)
		if len(s) != 4 {
			t.Fatalf("Four(%08x) = %s", sum, tohex(s))
		}
		n := uint32(0)
		for _, b := range []byte(s) {
			n = n*256 + uint32(b)
		}
		if n != sum {
			t.Fatalf("Four(%08x) = %s", sum, tohex(s))
		}
	}
}
