// Package runes has the code points of texts: their encodings (UTF-8), and the surrogates that stand for them in pairs.
package runes

import "strings"

const (
	firstSurrogate = 0xd800
	firstLow       = 0xdc00
	lastSurrogate  = 0xdfff
	firstPaired    = 0x10000
	lastPoint      = 0x10ffff

	lowBits = 10
	lowMask = 1<<lowBits - 1
)

// A range over a string tells this code point where no encoding begins; it has an encoding of its own, too, so that it alone does not tell a fault.
const replacement = '\ufffd'

func Valid(s string) bool {
	return Bad(s) < 0
}

func Bad(s string) int {
	for i, r := range s {
		if broken(s[i:], r) {
			return i
		}
	}
	return -1
}

// First goes on to a second code point, as only its place tells how many bytes the first one has.
func First(s string) (r rune, n int, is bool) {
	for i, next := range s {
		if i > 0 {
			return r, i, true
		}
		if broken(s, next) {
			return 0, 0, false
		}
		r, is = next, true
	}
	return r, len(s), is
}

func Count(s string) int {
	n := 0
	for i, r := range s {
		if broken(s[i:], r) {
			return -1
		}
		n++
	}
	return n
}

func Bytes(r rune) string {
	if !isPoint(r) {
		return ""
	}
	return string(r)
}

func Hex(s string) (r rune, is bool) {
	const digits = 4
	if len(s) < digits {
		return 0, false
	}
	for _, c := range s[:digits] {
		d, ok := digit(c)
		if !ok {
			return 0, false
		}
		r = r<<4 | d
	}
	return r, true
}

func Pair(high, low rune) (r rune, is bool) {
	if !isHigh(high) || !isLow(low) {
		return 0, false
	}
	return firstPaired + (high-firstSurrogate)<<lowBits + (low - firstLow), true
}

func Halves(r rune) (high, low rune, is bool) {
	if r < firstPaired || r > lastPoint {
		return 0, 0, false
	}
	r -= firstPaired
	return firstSurrogate + r>>lowBits, firstLow + r&lowMask, true
}

// broken takes what a range told of the beginning of s, so that nothing is decoded twice.
func broken(s string, r rune) bool {
	return r == replacement && !strings.HasPrefix(s, string(replacement))
}

func isPoint(r rune) bool {
	return r >= 0 && r < firstSurrogate || r > lastSurrogate && r <= lastPoint
}

func isHigh(r rune) bool {
	return r >= firstSurrogate && r < firstLow
}

func isLow(r rune) bool {
	return r >= firstLow && r <= lastSurrogate
}

func digit(c rune) (d rune, is bool) {
	switch {
	case c >= '0' && c <= '9':
		return c - '0', true
	case c >= 'a' && c <= 'f':
		return c - 'a' + 10, true
	case c >= 'A' && c <= 'F':
		return c - 'A' + 10, true
	}
	return 0, false
}
