package crc_test

import (
	"math/rand"
	"strings"
	"testing"
	"unsafe"

	"rubato/api"
	"rubato/crc"
)

// wantOpen holds Unseal to a text, however often it is asked.
func wantOpen(t testing.TB, s, want string) {
	t.Helper()
	for range 2 {
		if got, e := crc.Unseal(s); got != want || e != api.OK {
			t.Fatalf("Unseal(%s) = %s, %v, want %s", tohex(s), tohex(got), e, tohex(want))
		}
	}
}

// wantShut holds Unseal to an error, and to no text beside it.
func wantShut(t testing.TB, s string, want api.Errno) {
	t.Helper()
	if got, e := crc.Unseal(s); got != "" || e != want {
		t.Fatalf("Unseal(%s) = %s, %d, want %d", tohex(s), tohex(got), int(e), int(want))
	}
}

func TestP72Seal(t *testing.T) {
	for _, x := range []struct{ s, want string }{
		{"", "ffffffff"},
		{"\x00", "004e08bfb4"},
		{"\x80", "8027045f5a"},
		{"\xff", "ffffffff00"},
		{"a", "61e66c6494"},
		{"abc", "6162639b73448c"},
		{"\xff\xfe\xc0", "fffec0c16411f1"},
		{"abcd", "61626364c2b3ccb4"},
		{"\xff\xff\xff\xff", "ffffffff00000000"},
		{"abcde", "61626364655ca4b20b"},
		{"123456789", "3132333435363738390376e6e7"},
	} {
		s := crc.Seal(x.s)
		if tohex(s) != x.want {
			t.Errorf("Seal(%s) = %s, want %s", tohex(x.s), tohex(s), x.want)
		}
		wantOpen(t, s, x.s)
	}
}

// A sealed text is the text and the four bytes of its sum, and is unsealed; a sealed one may be sealed again.
func TestP72Words(t *testing.T) {
	for _, s := range textsAnd(rand.New(rand.NewSource(72)), 4000, 400) {
		sealed := crc.Seal(s)
		if sealed != s+crc.Four(stepped(0xffffffff, s)) {
			t.Fatalf("Seal(%s) = %s", tohex(s), tohex(sealed))
		}
		wantOpen(t, sealed, s)
		wantOpen(t, crc.Seal(sealed), sealed)
	}
}

func TestP72UnsealShort(t *testing.T) {
	for _, s := range []string{"", "\x00", "\xff", "a", "ab", "\xff\xff", "abc", "\xff\xff\xff", "\x00\x00\x00"} {
		wantShut(t, s, api.ErrShort)
	}
	for n := range 4 {
		for _, s := range texts() {
			wantShut(t, crc.Seal(s)[:n], api.ErrShort)
		}
	}
}

// Of just four bytes those of the sum of no byte alone are taken.
func TestP72UnsealFour(t *testing.T) {
	wantOpen(t, "\xff\xff\xff\xff", "")
	for _, s := range []string{"\x00\x00\x00\x00", "abcd", "\x7f\xff\xff\xff", "\xff\xff\xff\xfe", "\x00\xff\xff\xff", "\xff\xff\xff\x00", "\xff\x00\x00\xff", "\x04\xc1\x1d\xb7"} {
		wantShut(t, s, api.ErrSum)
	}
	for i := range 32 {
		wantShut(t, crc.Four(1<<i), api.ErrSum)
		wantShut(t, crc.Four(^uint32(1<<i)), api.ErrSum)
	}
	chance := rand.New(rand.NewSource(172))
	for range 10000 {
		wantShut(t, crc.Four(chance.Uint32()&^1), api.ErrSum)
	}
}

// The sum's bytes in another order, or of another sum, are not taken.
func TestP72UnsealOther(t *testing.T) {
	for _, s := range []string{
		"123456789\xe7\xe6\x76\x03", // the lowest first
		"123456789\xfc\x89\x19\x18", // each bit the other one
		"123456789\xcb\xf4\x39\x26", // the sum that goes the other way round
		"123456789\x89\xa1\x89\x7f", // from 0 on
		"123456789\x00\x00\x00\x00",
		"123456789\xff\xff\xff\xff",
		"\x03\x76\xe6\xe7123456789", // ahead
		"123456789",
	} {
		wantShut(t, s, api.ErrSum)
	}
	wantOpen(t, "123456789\x03\x76\xe6\xe7", "123456789")
}

// broken are what becomes of a text where a byte is another one, is gone, is there twice, or stands ahead or behind: each that is not the text.
func broken(s string) []string {
	var l []string
	add := func(other string) {
		if other != s {
			l = append(l, other)
		}
	}
	for i := range len(s) {
		for bit := range 8 {
			add(s[:i] + string([]byte{s[i] ^ 1<<bit}) + s[i+1:])
		}
		for _, b := range []byte{0, 1, 0x7f, 0x80, 0xff} {
			add(s[:i] + string([]byte{b}) + s[i+1:])
			add(s[:i] + string([]byte{b}) + s[i:])
		}
		add(s[:i] + s[i+1:])
		add(s[:i] + s[i:i+1] + s[i:])
		add(s[:i])
		add(s[i+1:])
	}
	for b := range 256 {
		add(s + string([]byte{byte(b)}))
	}
	return l
}

// What is cut, doubled or changed is refused, unless the chapter's words take it: its sum, as bytes, at its end.
func TestP72UnsealBroken(t *testing.T) {
	for _, text := range textsAnd(rand.New(rand.NewSource(272)), 100, 50) {
		if len(text) > 100 {
			text = text[:100]
		}
		for _, s := range broken(crc.Seal(text)) {
			switch at := len(s) - 4; {
			case at < 0:
				wantShut(t, s, api.ErrShort)
			case crc.Four(stepped(0xffffffff, s[:at])) == s[at:]:
				wantOpen(t, s, s[:at])
			default:
				wantShut(t, s, api.ErrSum)
			}
		}
	}
}

// A sealed text with a byte changed, doubled or cut is refused by all means, and so with a byte behind that is not 0.
func TestP72UnsealRefused(t *testing.T) {
	s := crc.Seal("123456789")
	for _, other := range broken(s) {
		switch {
		case other == s+"\x00": // see TestP72UnsealBehind
		case len(other) < 4:
			wantShut(t, other, api.ErrShort)
		default:
			wantShut(t, other, api.ErrSum)
		}
	}
	for i := range len(s) {
		for b := range 256 {
			if byte(b) != s[i] {
				wantShut(t, s[:i]+string([]byte{byte(b)})+s[i+1:], api.ErrSum)
			}
		}
	}
	wantShut(t, s+s, api.ErrSum)
}

// The sum of what is sealed is 0 and stays so by bytes 0: with these behind, it is what a longer text is sealed to.
func TestP72UnsealBehind(t *testing.T) {
	for _, text := range texts() {
		s := crc.Seal(text)
		for n := range 6 {
			zeros := s + strings.Repeat("\x00", n)
			wantOpen(t, zeros, zeros[:len(text)+n])
		}
		for _, b := range []string{"\x01", "\x04", "\x80", "\xff"} {
			wantShut(t, s+b, api.ErrSum)
		}
	}
}

// Long texts, and one bit of them.
func TestP72UnsealLong(t *testing.T) {
	text := strings.Repeat("\xff\x00\x80\x7f\x01", 60000)
	s := []byte(crc.Seal(text))
	wantOpen(t, string(s), text)
	for _, at := range []int{0, 1, len(s) / 2, len(s) - 5, len(s) - 4, len(s) - 1} {
		s[at] ^= 0x10
		wantShut(t, string(s), api.ErrSum)
		s[at] ^= 0x10
	}
	wantShut(t, string(s[:len(s)-1]), api.ErrSum)
	wantShut(t, string(s[1:]), api.ErrSum)
	wantOpen(t, string(s), text)
}

// loose is a text upon bytes that may be changed behind its back.
func loose(b []byte) string { return unsafe.String(unsafe.SliceData(b), len(b)) }

// What is handed in stays as it was, with what stands about it; what is handed out shares nothing with it.
func TestP72NewMemory(t *testing.T) {
	const about = "ahead"
	for _, text := range []string{"", "a", "abcd", "123456789", strings.Repeat("x", 300)} {
		sealed := crc.Seal(text)
		all := []byte(about + text + about)
		got := crc.Seal(loose(all[len(about) : len(about)+len(text)]))
		if string(all) != about+text+about {
			t.Fatalf("Seal made %s of what was handed in", tohex(string(all)))
		}
		clear(all)
		if got != sealed {
			t.Fatalf("Seal(%s) changed, with what was handed in, into %s", tohex(text), tohex(got))
		}
		all = []byte(about + sealed + about)
		s := loose(all[len(about) : len(about)+len(sealed)])
		sum := crc.On(crc.Of(s), s)
		open, e := crc.Unseal(s)
		again, _ := crc.Unseal(s)
		if string(all) != about+sealed+about {
			t.Fatalf("%s was made of what was handed in", tohex(string(all)))
		}
		clear(all)
		if open != text || again != text || e != api.OK || sum != stepped(stepped(0xffffffff, sealed), sealed) {
			t.Fatalf("Unseal(%s) changed, with what was handed in, into %s", tohex(sealed), tohex(open))
		}
		if text != "" && unsafe.StringData(open) == unsafe.StringData(again) {
			t.Fatalf("Unseal(%s), twice, is one text in memory", tohex(sealed))
		}
	}
}
