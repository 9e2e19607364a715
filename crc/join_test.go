package crc_test

import (
	"math"
	"strings"
	"testing"

	"codicil/crc"
)

func checkJoin(t *testing.T, a, b uint32, n int, want uint32) {
	t.Helper()
	if got := crc.Join(a, b, n); got != want {
		t.Errorf("Join(%08x, %08x, %d): %08x, not %08x", a, b, n, got, want)
	}
}

func checkJoined(t *testing.T, first, second string) {
	t.Helper()
	checkJoin(t, crc.Of(first), crc.Of(second), len(second), crc.Of(first+second))
}

func TestP4_2Known(t *testing.T) {
	s := "123456789"
	for i := range len(s) + 1 {
		checkJoin(t, crc.Of(s[:i]), crc.Of(s[i:]), len(s)-i, 0xcbf43926)
	}
	checkJoin(t, 0, 0, 0, 0)
}

// A text that is cut at every place, in two and in three.
func TestP4_2Cut(t *testing.T) {
	for n := range 80 {
		s := mixed(n, uint32(n)+1)
		for i := range n + 1 {
			checkJoined(t, s[:i], s[i:])
		}
	}
	s := mixed(60, 8)
	for i := range len(s) + 1 {
		for j := i; j <= len(s); j++ {
			a, b, c := crc.Of(s[:i]), crc.Of(s[i:j]), crc.Of(s[j:])
			checkJoin(t, crc.Join(a, b, j-i), c, len(s)-j, crc.Of(s))
			checkJoin(t, a, crc.Join(b, c, len(s)-j), len(s)-i, crc.Of(s))
		}
	}
}

func TestP4_2LongTexts(t *testing.T) {
	first := mixed(1000, 4)
	for _, n := range []int{1 << 10, 1<<16 - 1, 1 << 16, 1<<19 + 1, most - 1, most} {
		checkJoined(t, first, mixed(n, uint32(n)))
		checkJoined(t, first, strings.Repeat("\x00", n))
		checkJoined(t, "", strings.Repeat("\xff", n))
	}
	checkJoined(t, mixed(most+9, 2), "a short text behind a long one")
}

// Any numbers, whether bytes have them as checksums or not: with no bytes nothing but 0 is one.
func TestP4_2Nothing(t *testing.T) {
	for _, a := range numbers() {
		for _, b := range numbers() {
			checkJoin(t, a, b, 0, a^b)
		}
	}
	checkJoin(t, 5, 0, 0, 5)
	checkJoin(t, 0, 5, 0, 5)
	checkJoin(t, 5, 5, 0, 0)
}

// A single byte has but 256 checksums: these here are beside them.
func TestP4_2NoSuchBytes(t *testing.T) {
	for _, a := range numbers() {
		register := a
		for n := range 200 {
			for _, b := range []uint32{0, 1, 0x80000000, math.MaxUint32, a, ^a} {
				checkJoin(t, a, b, n, register^b)
			}
			register = moved(register, 0)
		}
	}
}

// Each n there is, up to the greatest.
func TestP4_2EachNumber(t *testing.T) {
	const a, b = 0x9e3779b9, 0x7f4a7c15
	register := uint32(a)
	for n := range most + 1 {
		if got := crc.Join(a, b, n); got != register^b {
			t.Fatalf("Join(%08x, %08x, %d): %08x, not %08x", uint32(a), uint32(b), n, got, register^b)
		}
		register = moved(register, 0)
	}
}

// Each single bit, at the powers of two and next to them.
func TestP4_2EachBit(t *testing.T) {
	for i := range 32 {
		a := uint32(1) << i
		register := a
		for n := range most + 1 {
			near := n&(n-1) == 0 || n&(n+1) == 0 || (n-1)&(n-2) == 0
			if near {
				checkJoin(t, a, 0, n, register)
				checkJoin(t, a, register, n, 0)
			}
			register = moved(register, 0)
		}
	}
}

func TestP4_2Refused(t *testing.T) {
	for _, n := range []int{
		-1, -2, -7, -8, -most + 1, -most, -most - 1, math.MinInt32, math.MinInt, math.MinInt + 1, math.MinInt + 5,
		most + 1, most + 2, most + 7, 2 * most, 3 * most, 1 << 24, math.MaxInt32 - 1, math.MaxInt32, math.MaxInt - 1, math.MaxInt,
		math.MaxUint32, math.MaxUint32 + 1, math.MaxUint32 + 8, -math.MaxUint32, -math.MaxUint32 + 6,
	} {
		for _, sum := range numbers() {
			checkJoin(t, sum, ^sum, n, 0)
			checkJoin(t, sum, 0, n, 0)
			checkJoin(t, 0, sum, n, 0)
			checkJoin(t, 1, sum, n, 0)
		}
	}
	checkJoin(t, 1, 2, most, crc.Join(1, 0, most)^2)
	if crc.Join(1, 2, most) == 0 {
		t.Error("Join of the greatest n is refused")
	}
}
