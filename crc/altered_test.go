package crc_test

import (
	"strings"
	"testing"

	"codicil/crc"
)

// altered has the bits of s changed that pattern has, from bit at on. Bits are numbered in the order in which the register takes them: the lowest of a byte first.
func altered(s string, at int, pattern uint32) string {
	b := []byte(s)
	for i := range 32 {
		if pattern>>i&1 == 1 {
			b[(at+i)/8] ^= 1 << ((at + i) % 8)
		}
	}
	return string(b)
}

// places tells how many runs of 32 bits there are in s; a shorter s is one itself.
func places(s string) int {
	return max(1, 8*len(s)-31)
}

// within leaves out of pattern the bits that a short s has not.
func within(s string, pattern uint32) uint32 {
	if len(s) < 4 {
		pattern &= 1<<(8*len(s)) - 1
	}
	return pattern
}

func checkChanged(t *testing.T, s string, at int, pattern uint32) {
	t.Helper()
	pattern = within(s, pattern)
	if pattern != 0 && crc.Of(altered(s, at, pattern)) == crc.Of(s) {
		t.Errorf("%d bytes, altered from bit %d on by %08x: one checksum", len(s), at, pattern)
	}
}

func TestP4_3EachPlace(t *testing.T) {
	for _, n := range []int{1, 2, 3, 4, 5, 7, 8, 9, 12, 33} {
		for _, s := range []string{mixed(n, uint32(n)), strings.Repeat("\x00", n), strings.Repeat("\xff", n)} {
			for at := range places(s) {
				for _, pattern := range numbers() {
					checkChanged(t, s, at, pattern)
				}
			}
		}
	}
}

// The first and the last place of texts, short and long.
func TestP4_3Ends(t *testing.T) {
	for _, n := range []int{4, 5, 16, 64, 1000} {
		s := mixed(n, uint32(n))
		for i := range 32 {
			for j := range 32 {
				pattern := uint32(1)<<i | uint32(1)<<j
				for _, at := range []int{0, places(s) - 1} {
					checkChanged(t, s, at, pattern)
					checkChanged(t, s, at, ^pattern)
				}
			}
		}
	}
	s := mixed(most, 6)
	for _, pattern := range []uint32{1, 0x80000000, 0x80000001, 0xffffffff, 0xedb88320, 0xdb710641} {
		checkChanged(t, s, 0, pattern)
		checkChanged(t, s, places(s)/2, pattern)
		checkChanged(t, s, places(s)-1, pattern)
	}
}

// All texts of one byte, and all of two, have checksums of their own.
func TestP4_3Short(t *testing.T) {
	one, two := map[uint32]bool{}, map[uint32]bool{}
	for i := range 256 {
		one[crc.Of(string([]byte{byte(i)}))] = true
		for j := range 256 {
			two[crc.Of(string([]byte{byte(i), byte(j)}))] = true
		}
	}
	if len(one) != 1<<8 || len(two) != 1<<16 {
		t.Errorf("checksums of one byte: %d, of two: %d", len(one), len(two))
	}
}

func xored(a, b string) string {
	x := make([]byte, len(a))
	for i := range x {
		x[i] = a[i] ^ b[i]
	}
	return string(x)
}

// What an alteration does to the checksum hangs on the altered bits alone: so it is enough to see what each of them does.
func TestP4_3Linear(t *testing.T) {
	for n := range 200 {
		a, b := mixed(n, uint32(n)+2), mixed(n, uint32(n)+999)
		zeros := strings.Repeat("\x00", n)
		if crc.Of(xored(a, b))^crc.Of(zeros) != crc.Of(a)^crc.Of(b) {
			t.Errorf("texts of %d bytes: their xor has another checksum", n)
		}
	}
}

// independent tells that no choice of the numbers is 0 when xored.
func independent(list []uint32) bool {
	var kept []uint32 // none of which has another one's highest bit
	for _, x := range list {
		for _, k := range kept {
			x = min(x, x^k)
		}
		if x == 0 {
			return false
		}
		kept = append(kept, x)
	}
	return true
}

// All alterations of a run at once: what its single bits do is independent, so that no choice of them does nothing.
func TestP4_3AllAlterations(t *testing.T) {
	for n := 1; n <= 40; n++ {
		s := mixed(n, uint32(n)+5)
		for at := range places(s) {
			var changes []uint32
			for i := range min(32, 8*n) {
				changes = append(changes, crc.Of(altered(s, at, 1<<i))^crc.Of(s))
			}
			if !independent(changes) {
				t.Errorf("%d bytes: an alteration from bit %d on changes nothing", n, at)
			}
		}
	}
}
