package crc_test

import (
	"hash/crc32"
	"math"
	"strings"
	"testing"

	"codicil/crc"
)

const most = 1 << 20 // of Join's n

// mixed answers n bytes that look like nothing in particular, the same ones each time.
func mixed(n int, seed uint32) string {
	b := make([]byte, n)
	for i := range b {
		seed = seed*1664525 + 1013904223
		b[i] = byte(seed >> 24)
	}
	return string(b)
}

// numbers has 0, all ones, each bit alone, each bit missing, and some that are mixed.
func numbers() []uint32 {
	list := []uint32{0, math.MaxUint32}
	for i := range 32 {
		list = append(list, 1<<i, ^uint32(1<<i))
	}
	seed := uint32(1)
	for range 64 {
		seed = seed*1664525 + 1013904223
		list = append(list, seed)
	}
	return list
}

// moved is the chapter's definition, of one byte.
func moved(register uint32, c byte) uint32 {
	register ^= uint32(c)
	for range 8 {
		out := register & 1
		register >>= 1
		if out == 1 {
			register ^= 0xedb88320
		}
	}
	return register
}

func defined(sum uint32, s string) uint32 {
	register := ^sum
	for i := range len(s) {
		register = moved(register, s[i])
	}
	return ^register
}

// checkOf holds Of against the definition, and against what others made of it.
func checkOf(t *testing.T, s, name string) {
	t.Helper()
	got := crc.Of(s)
	if want := defined(0, s); got != want {
		t.Errorf("Of %s (%d bytes): %08x, not %08x", name, len(s), got, want)
	}
	if want := crc32.ChecksumIEEE([]byte(s)); got != want {
		t.Errorf("Of %s (%d bytes): %08x, the library's is %08x", name, len(s), got, want)
	}
}

func checkMore(t *testing.T, sum uint32, s string, want uint32) {
	t.Helper()
	if got := crc.More(sum, s); got != want {
		t.Errorf("More(%08x, %d bytes): %08x, not %08x", sum, len(s), got, want)
	}
}

func TestP4_1Known(t *testing.T) {
	for _, c := range []struct {
		s    string
		want uint32
	}{
		{"", 0},
		{"\x00", 0xd202ef8d},
		{"\xff", 0xff000000},
		{"a", 0xe8b7be43},
		{"abc", 0x352441c2},
		{"message digest", 0x20159d7f},
		{"123456789", 0xcbf43926},
		{"The quick brown fox jumps over the lazy dog", 0x414fa339},
		{strings.Repeat("\x00", 4), 0x2144df1c},
		{strings.Repeat("\xff", 4), 0xffffffff},
		{strings.Repeat("\x00", 32), 0x190a55ad},
		{strings.Repeat("\xff", 32), 0xff6cab0b},
	} {
		if got := crc.Of(c.s); got != c.want {
			t.Errorf("Of(%q): %08x, not %08x", c.s, got, c.want)
		}
		checkMore(t, 0, c.s, c.want)
	}
	checkMore(t, crc.Of("1234"), "56789", 0xcbf43926)
}

// All texts of one byte and of two.
func TestP4_1Short(t *testing.T) {
	for i := range 256 {
		checkOf(t, string([]byte{byte(i)}), "one byte")
		for j := range 256 {
			checkOf(t, string([]byte{byte(i), byte(j)}), "two bytes")
		}
	}
}

func TestP4_1EachLength(t *testing.T) {
	for n := range 600 {
		checkOf(t, mixed(n, uint32(n)), "mixed bytes")
		checkOf(t, strings.Repeat("\x00", n), "zeros")
		checkOf(t, strings.Repeat("\xff", n), "ones")
	}
}

func TestP4_1EachBit(t *testing.T) {
	for _, n := range []int{3, 4, 5, 9, 64} {
		b := make([]byte, n)
		for i := range 8 * n {
			b[i/8] = 1 << (i % 8)
			checkOf(t, string(b), "one bit")
			b[i/8] = 0
		}
	}
}

func TestP4_1Long(t *testing.T) {
	for _, n := range []int{1 << 14, 1<<16 + 1, most - 1, most, most + 1, 1<<22 + 3} {
		checkOf(t, mixed(n, 5), "a long text")
	}
}

// A text that is cut at every place, in two and in three.
func TestP4_1Cut(t *testing.T) {
	s := mixed(120, 3)
	want := crc.Of(s)
	for i := range len(s) + 1 {
		first := crc.Of(s[:i])
		checkMore(t, first, s[i:], want)
		for j := i; j <= len(s); j++ {
			checkMore(t, crc.More(first, s[i:j]), s[j:], want)
		}
	}
	sum := crc.Of("")
	for i := range len(s) {
		sum = crc.More(sum, s[i:i+1])
		if sum != crc.Of(s[:i+1]) {
			t.Errorf("byte by byte, up to %d: %08x, not %08x", i, sum, crc.Of(s[:i+1]))
		}
	}
}

// Nothing adds nothing, whatever the sum is.
func TestP4_1MoreNothing(t *testing.T) {
	for _, sum := range numbers() {
		checkMore(t, sum, "", sum)
	}
}

// ending has the four bytes behind which, after nothing, the checksum is sum: the definition, gone through backwards.
func ending(sum uint32) string {
	register := ^sum
	for range 32 {
		if register>>31 == 1 {
			register = (register^0xedb88320)<<1 | 1
		} else {
			register <<= 1
		}
	}
	register = ^register
	return string([]byte{byte(register), byte(register >> 8), byte(register >> 16), byte(register >> 24)})
}

// Each number is the checksum of some bytes, and may so be handed in.
func TestP4_1EachSum(t *testing.T) {
	for i, sum := range numbers() {
		before := ending(sum)
		if got := crc.Of(before); got != sum {
			t.Errorf("Of(%q): %08x, not %08x", before, got, sum)
		}
		s := mixed(i, uint32(i))
		checkMore(t, sum, s, crc.Of(before+s))
		checkMore(t, sum, s, defined(sum, s))
		checkMore(t, sum, s, crc32.Update(sum, crc32.IEEETable, []byte(s)))
	}
}

func TestP4_1Again(t *testing.T) {
	s := mixed(200, 9)
	first := crc.Of(s)
	crc.More(first, "another one")
	crc.Join(first, first, 77)
	if crc.Of(s) != first || s != mixed(200, 9) {
		t.Error("a second checksum of a text is another one")
	}
}
