package sha_test

import (
	"fmt"
	"strings"
	"testing"

	"codicil/sha"
)

func value(c byte) int {
	return strings.IndexByte("0123456789abcdef", c)
}

func checkNone(t *testing.T, h string) {
	t.Helper()
	if b, is := sha.Bytes(h); b != "" || is {
		t.Errorf("Bytes(%q): %q, %v", h, b, is)
	}
}

func checkBytes(t *testing.T, h, want string) {
	t.Helper()
	if b, is := sha.Bytes(h); b != want || !is {
		t.Errorf("Bytes(%q): %q, %v, not %q", h, b, is, want)
	}
}

func TestP3_2Hex(t *testing.T) {
	for _, c := range []struct{ s, want string }{
		{"", ""},
		{"\x00", "00"},
		{"\x0f\xf0", "0ff0"},
		{"abc", "616263"},
		{"\x01\x23\x45\x67\x89\xab\xcd\xef", "0123456789abcdef"},
		{"\xff\x80\x7f\n\"", "ff807f0a22"},
		{"\xe2\x82\xac", "e282ac"},
	} {
		if h := sha.Hex(c.s); h != c.want {
			t.Errorf("Hex(%q): %q, not %q", c.s, h, c.want)
		}
		checkBytes(t, c.want, c.s)
	}
	for i := range 256 {
		if h, want := sha.Hex(string([]byte{byte(i)})), fmt.Sprintf("%02x", i); h != want {
			t.Errorf("Hex of byte %d: %q, not %q", i, h, want)
		}
	}
}

// All texts of one byte and of two.
func TestP3_2BytesShort(t *testing.T) {
	for i := range 256 {
		checkNone(t, string([]byte{byte(i)}))
		for j := range 256 {
			h := string([]byte{byte(i), byte(j)})
			high, low := value(byte(i)), value(byte(j))
			if high < 0 || low < 0 {
				checkNone(t, h)
				continue
			}
			checkBytes(t, h, string([]byte{byte(high*16 + low)}))
		}
	}
}

func TestP3_2Wrong(t *testing.T) {
	for _, h := range []string{
		"0", "abc", "00f", "0F", "F0", "AB", "aB", "Ab", "00ffAA", "0g", "g0", "0x00", " 00", "00 ", "00 ff", "0 0", "00\n", "\x00\x00",
		"-1", "+1", "1_", "0:", "0/", "0`", "0@", "0G", "\xef\xbc\x90\xef\xbc\x91", "\xc3\xa4", "\xff\xff", "00ffz", "z",
	} {
		checkNone(t, h)
	}
}

// One byte that is no digit, at each place, and one digit less or more.
func TestP3_2WrongSomewhere(t *testing.T) {
	h := sha.Hex(mixed(40, 3))
	for i := range len(h) {
		for _, c := range []string{"A", "F", "g", " ", "\x00", "/", ":", "`", "\xff"} {
			checkNone(t, h[:i]+c+h[i+1:])
		}
		checkNone(t, h[:i]+h[i+1:])
		checkNone(t, h[:i]+"0"+h[i:])
	}
}

func TestP3_3BytesOfHex(t *testing.T) {
	for n := range 300 {
		s := mixed(n, uint32(n)+7)
		h := sha.Hex(s)
		if h != fmt.Sprintf("%x", s) {
			t.Errorf("Hex(%q): %q", s, h)
		}
		checkBytes(t, h, s)
		checkBytes(t, sha.Hex(sha.Sum(s)), sha.Sum(s))
	}
	for i := range 256 {
		for j := range 256 {
			s := string([]byte{byte(i), byte(j)})
			checkBytes(t, sha.Hex(s), s)
		}
	}
	long := mixed(1<<20, 2)
	if b, is := sha.Bytes(sha.Hex(long)); b != long || !is {
		t.Error("Bytes of the Hex of a long text is another one")
	}
}

func TestP3_3HexOfBytes(t *testing.T) {
	const digits = "0123456789abcdef"
	for i := range 1 << 16 {
		h := string([]byte{digits[i>>12], digits[i>>8&15], digits[i>>4&15], digits[i&15]})
		b, is := sha.Bytes(h)
		if !is || len(b) != 2 || sha.Hex(b) != h {
			t.Errorf("Bytes(%q): %q, %v; its Hex: %q", h, b, is, sha.Hex(b))
		}
	}
	checkBytes(t, "", "")
}
