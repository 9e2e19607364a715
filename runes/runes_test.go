package runes_test

import (
	"fmt"
	"math"
	"strings"
	"testing"

	"codicil/runes"
)

// edges: the bounds that the chapter names, and their neighbours.
var edges = []rune{
	math.MinInt32, -0x10000, -1, 0, 1, 0x41, 0x7f, 0x80, 0x81, 0xe9, 0xff, 0x100, 0x7ff, 0x800, 0x801, 0xfff, 0x1000,
	0x20ac, 0xd7ff, 0xd800, 0xd801, 0xdbff, 0xdc00, 0xdc01, 0xdfff, 0xe000, 0xfffc, 0xfffd, 0xfffe, 0xffff,
	0x10000, 0x10001, 0x103ff, 0x10400, 0x1f600, 0x3ffff, 0x40000, 0xfffff, 0x100000, 0x10fc00, 0x10fffe, 0x10ffff,
	0x110000, 0x110001, 0x1fffff, 0x200000, 0x10000041, math.MaxInt32,
}

// lastTried is beyond the last code point, so that loops meet numbers that are none.
const lastTried = 0x110400

func point(r rune) bool {
	return 0 <= r && r <= 0x10ffff && (r < 0xd800 || r > 0xdfff)
}

// encoding is the chapter's definition, byte by byte; also of numbers that are no code points, in n bytes.
func encoding(r rune, n int) string {
	switch n {
	case 1:
		return string([]byte{byte(r)})
	case 2:
		return string([]byte{0xc0 + byte(r>>6), 0x80 + byte(r&0x3f)})
	case 3:
		return string([]byte{0xe0 + byte(r>>12), 0x80 + byte(r>>6&0x3f), 0x80 + byte(r&0x3f)})
	}
	return string([]byte{0xf0 + byte(r>>18), 0x80 + byte(r>>12&0x3f), 0x80 + byte(r>>6&0x3f), 0x80 + byte(r&0x3f)})
}

func size(r rune) int {
	switch {
	case r < 0x80:
		return 1
	case r < 0x800:
		return 2
	case r < 0x10000:
		return 3
	}
	return 4
}

// first is the code point that s begins with: the one number that n bytes may stand for is encoded again.
func first(s string) (rune, int, bool) {
	lead := []byte{0, 0, 0xc0, 0xe0, 0xf0}
	for n := 1; n <= 4 && n <= len(s); n++ {
		r := rune(s[0]) - rune(lead[n])
		for _, b := range []byte(s[1:n]) {
			r = r<<6 + rune(b) - 0x80
		}
		if point(r) && size(r) == n && encoding(r, n) == s[:n] {
			return r, n, true
		}
	}
	return 0, 0, false
}

// parts tells where the encodings of s end, and how many there are.
func parts(s string) (end, count int) {
	for end < len(s) {
		_, n, is := first(s[end:])
		if !is {
			return end, count
		}
		end, count = end+n, count+1
	}
	return end, count
}

// checkText holds what Valid, Bad, First and Count answer of s against the definition.
func checkText(t *testing.T, s string) {
	t.Helper()
	end, count := parts(s)
	valid := end == len(s)
	bad := end
	if valid {
		bad = -1
	} else {
		count = -1
	}
	if got := runes.Valid(s); got != valid {
		t.Errorf("Valid(%x) = %v", s, got)
	}
	if got := runes.Bad(s); got != bad {
		t.Errorf("Bad(%x) = %d, want %d", s, got, bad)
	}
	if got := runes.Count(s); got != count {
		t.Errorf("Count(%x) = %d, want %d", s, got, count)
	}
	r, n, is := first(s)
	if gr, gn, gis := runes.First(s); gr != r || gn != n || gis != is {
		t.Errorf("First(%x) = %x, %d, %v, want %x, %d, %v", s, gr, gn, gis, r, n, is)
	}
}

// quit ends a test that has failed, so that loops over everything do not tell each of their faults.
func quit(t *testing.T) {
	t.Helper()
	if t.Failed() {
		t.FailNow()
	}
}

// P1.1: what stands in the chapter, and texts written out by hand.
func TestP1_1Texts(t *testing.T) {
	for _, c := range []struct {
		s     string
		bad   int
		count int
		r     rune
		n     int
		is    bool
	}{
		{"", -1, 0, 0, 0, false},
		{"\x00", -1, 1, 0, 1, true},
		{"a", -1, 1, 'a', 1, true},
		{"\x7f\x00", -1, 2, 0x7f, 1, true},
		{"abc", -1, 3, 'a', 1, true},
		{"\xc3\xa9", -1, 1, 0xe9, 2, true},
		{"\xc3\xa9a", -1, 2, 0xe9, 2, true},
		{"a\xc3\xa9", -1, 2, 'a', 1, true},
		{"\xe2\x82\xaca", -1, 2, 0x20ac, 3, true},
		{"\xf0\x9f\x98\x80", -1, 1, 0x1f600, 4, true},
		{"\xf0\x9f\x98\x80\xf0\x9f\x98\x80", -1, 2, 0x1f600, 4, true},
		{"\xef\xbf\xbd", -1, 1, 0xfffd, 3, true},
		{"\xef\xbf\xbd\xef\xbf\xbd", -1, 2, 0xfffd, 3, true},
		{"\xef\xbb\xbfa", -1, 2, 0xfeff, 3, true},
		{"e\xcc\x81", -1, 2, 'e', 1, true},
		{"\xef\xbf\xbd\xff", 3, -1, 0xfffd, 3, true},
		{"\xff\xef\xbf\xbd", 0, -1, 0, 0, false},
		{"\xef\xbf", 0, -1, 0, 0, false},
		{"\xef", 0, -1, 0, 0, false},
		{"a\xc0\x80", 1, -1, 'a', 1, true},
		{"\xc3", 0, -1, 0, 0, false},
		{"\xc3a", 0, -1, 0, 0, false},
		{"\xe2\x82\xac\xff", 3, -1, 0x20ac, 3, true},
		{"\xe2\x82", 0, -1, 0, 0, false},
		{"ab\xe2\x82", 2, -1, 'a', 1, true},
		{"\xf0\x9f\x98", 0, -1, 0, 0, false},
		{"\x80", 0, -1, 0, 0, false},
		{"a\x80b", 1, -1, 'a', 1, true},
		{"\xc3\xa9\xa9", 2, -1, 0xe9, 2, true},
		{"\xed\xa0\x80", 0, -1, 0, 0, false},
		{"\xed\xbf\xbf", 0, -1, 0, 0, false},
		{"\xed\xa0\xbd\xed\xb8\x80", 0, -1, 0, 0, false},
		{"\xf4\x8f\xbf\xbf", -1, 1, 0x10ffff, 4, true},
		{"\xf4\x90\x80\x80", 0, -1, 0, 0, false},
		{"\xf8\x88\x80\x80\x80", 0, -1, 0, 0, false},
		{"\xfe\xff", 0, -1, 0, 0, false},
	} {
		if got := runes.Bad(c.s); got != c.bad {
			t.Errorf("Bad(%x) = %d, want %d", c.s, got, c.bad)
		}
		if got := runes.Valid(c.s); got != (c.bad == -1) {
			t.Errorf("Valid(%x) = %v", c.s, got)
		}
		if got := runes.Count(c.s); got != c.count {
			t.Errorf("Count(%x) = %d, want %d", c.s, got, c.count)
		}
		if r, n, is := runes.First(c.s); r != c.r || n != c.n || is != c.is {
			t.Errorf("First(%x) = %x, %d, %v, want %x, %d, %v", c.s, r, n, is, c.r, c.n, c.is)
		}
	}
}

// P1.1: each code point's encoding, alone, ahead of others and behind them.
func TestP1_1Points(t *testing.T) {
	for r := rune(0); r <= lastTried; r++ {
		s := encoding(r, size(r))
		want := -1
		if !point(r) {
			want = 0
		}
		if got := runes.Bad(s); got != want || runes.Valid(s) != (want < 0) {
			t.Fatalf("Bad(%x) = %d, want %d", s, got, want)
		}
	}
	for _, r := range edges {
		s := encoding(r, size(r))
		for _, more := range []string{"", "a", "\u00e9", "\u20ac", "\U0001f600", "\ufffd", "\x80", "\xff", "\xe2\x82"} {
			checkText(t, s+more)
			checkText(t, more+s)
			checkText(t, more+s+more)
		}
	}
}

// P1.1: encodings that are too long, cut off, or of surrogates.
func TestP1_1Wrong(t *testing.T) {
	for _, r := range edges {
		for n := size(r) + 1; r >= 0 && n <= 4; n++ {
			for _, ahead := range []string{"", "ab", "\ufffd"} {
				if got := runes.Bad(ahead + encoding(r, n) + "z"); got != len(ahead) {
					t.Errorf("%x in %d bytes: Bad = %d", r, n, got)
				}
			}
			checkText(t, encoding(r, n))
		}
	}
	for r := rune(0xd800); r <= 0xdfff; r++ {
		s := encoding(r, 3)
		if runes.Valid(s) || runes.Bad("a"+s) != 1 || runes.Count(s) != -1 {
			t.Errorf("a surrogate: %x", s)
		}
		if _, _, is := runes.First(s); is {
			t.Errorf("a surrogate is first: %x", s)
		}
	}
	for _, r := range edges {
		s := encoding(r, size(r))
		for n := 1; point(r) && n < len(s); n++ {
			if runes.Valid(s[:n]) || runes.Bad("a"+s[:n]) != 1 || runes.Count(s[:n]) != -1 {
				t.Errorf("cut off: %x", s[:n])
			}
			if runes.Valid(s[n:]) || runes.Bad(s[n:]) != 0 || runes.Valid(s[:n]+s) {
				t.Errorf("its rest: %x", s[n:])
			}
		}
	}
}

// P1.1: all texts of up to two bytes, and those of up to four at which a decoder may go wrong.
func TestP1_1Bytes(t *testing.T) {
	for a := range 256 {
		checkText(t, string([]byte{byte(a)}))
		for b := range 256 {
			checkText(t, string([]byte{byte(a), byte(b)}))
		}
	}
	quit(t)
	some := "\x00\x7f\x80\x8f\x90\x9f\xa0\xbd\xbf\xc0\xc1\xc2\xdf\xe0\xe1\xec\xed\xef\xf0\xf3\xf4\xf5\xf8\xff"
	for a := range len(some) {
		for b := range len(some) {
			for c := range len(some) {
				three := string([]byte{some[a], some[b], some[c]})
				checkText(t, three)
				for d := range len(some) {
					checkText(t, three+some[d:d+1])
				}
			}
			quit(t)
		}
	}
}

// P1.1: long texts, with and without a fault far behind; and a second answer is the first one.
func TestP1_1Long(t *testing.T) {
	for _, s := range []string{"a", "\u00e9", "\u20ac", "\ufffd", "\U0001f600", "a\u00e9\u20ac\U0001f600"} {
		_, each := parts(s)
		const times = 70000
		long := strings.Repeat(s, times)
		for range 2 {
			if runes.Bad(long) != -1 || !runes.Valid(long) || runes.Count(long) != times*each {
				t.Errorf("%x, %d times", s, times)
			}
			if at := runes.Bad(long + "\xc0" + long); at != len(long) {
				t.Errorf("%x, %d times and c0: %d", s, times, at)
			}
			if n := runes.Count(long + "\xe2\x82"); n != -1 {
				t.Errorf("%x, %d times, and one cut off: %d", s, times, n)
			}
			if r, n, is := runes.First(long + "\xff"); string(r) != s[:n] || !is {
				t.Errorf("%x, %d times: First = %x, %d, %v", s, times, r, n, is)
			}
		}
	}
}

// P1.2
func TestP1_2(t *testing.T) {
	for r, want := range map[rune]string{
		0: "\x00", 'a': "a", 0x7f: "\x7f", 0x80: "\xc2\x80", 0xe9: "\xc3\xa9", 0x7ff: "\xdf\xbf", 0x800: "\xe0\xa0\x80",
		0x20ac: "\xe2\x82\xac", 0xd7ff: "\xed\x9f\xbf", 0xe000: "\xee\x80\x80", 0xfffd: "\xef\xbf\xbd", 0xffff: "\xef\xbf\xbf",
		0x10000: "\xf0\x90\x80\x80", 0x1f600: "\xf0\x9f\x98\x80", 0x10ffff: "\xf4\x8f\xbf\xbf",
		0xd800: "", 0xdbff: "", 0xdc00: "", 0xdfff: "", 0x110000: "", -1: "", math.MinInt32: "", math.MaxInt32: "",
	} {
		if s := runes.Bytes(r); s != want {
			t.Errorf("Bytes(%x) = %x, want %x", r, s, want)
		}
	}
	for r := rune(-0x400); r <= lastTried; r++ {
		want := ""
		if point(r) {
			want = encoding(r, size(r))
		}
		if s := runes.Bytes(r); s != want {
			t.Fatalf("Bytes(%x) = %x, want %x", r, s, want)
		}
	}
}

// P1.3: Hex of all numbers, in small, great and mixed letters.
func TestP1_3Hex(t *testing.T) {
	for r := rune(0); r <= 0xffff; r++ {
		small := fmt.Sprintf("%04x", r)
		great := strings.ToUpper(small)
		for _, s := range []string{small, great, small[:2] + great[2:], great[:1] + small[1:], small + "0", small + "\xff", great + "g"} {
			if got, is := runes.Hex(s); got != r || !is {
				t.Fatalf("Hex(%q) = %x, %v", s, got, is)
			}
		}
	}
}

// P1.3: what is not four digits, for each byte at each place.
func TestP1_3HexWrong(t *testing.T) {
	for _, s := range []string{"", "1", "12", "00e", "00g9", "+123", "-123", "0x12", "0X12", " 123", "123 ", "1_23", "12\u00e9", "\u0661\u0661", "\uff11\uff11", "\x00\x00\x00\x00"} {
		if r, is := runes.Hex(s); r != 0 || is {
			t.Errorf("Hex(%q) = %x, %v", s, r, is)
		}
	}
	for b := range 256 {
		for at := range 4 {
			s := []byte("1bC9d")
			s[at] = byte(b)
			is := strings.IndexByte("0123456789abcdefABCDEF", byte(b)) >= 0
			if r, got := runes.Hex(string(s)); got != is || !is && r != 0 {
				t.Errorf("Hex(%q) = %x, %v", s, r, got)
			}
			if r, got := runes.Hex(string(s[:3])); got || r != 0 {
				t.Errorf("Hex(%q) = %x, %v", s[:3], r, got)
			}
		}
	}
}

// P1.3: Pair of all pairs, and of numbers that are none.
func TestP1_3Pair(t *testing.T) {
	for high := rune(0xd800); high <= 0xdbff; high++ {
		for low := rune(0xdc00); low <= 0xdfff; low++ {
			want := 0x10000 + 0x400*(high-0xd800) + (low - 0xdc00)
			if r, is := runes.Pair(high, low); r != want || !is {
				t.Fatalf("Pair(%x, %x) = %x, %v", high, low, r, is)
			}
		}
	}
	if r, is := runes.Pair(0xd83d, 0xde00); r != 0x1f600 || !is {
		t.Errorf("Pair(d83d, de00) = %x, %v", r, is)
	}
	for _, high := range edges {
		for _, low := range edges {
			if 0xd800 <= high && high <= 0xdbff && 0xdc00 <= low && low <= 0xdfff {
				continue
			}
			if r, is := runes.Pair(high, low); r != 0 || is {
				t.Errorf("Pair(%x, %x) = %x, %v", high, low, r, is)
			}
		}
	}
}

// P1.3: Halves of everything.
func TestP1_3Halves(t *testing.T) {
	if high, low, is := runes.Halves(0x1f600); high != 0xd83d || low != 0xde00 || !is {
		t.Errorf("Halves(1f600) = %x, %x, %v", high, low, is)
	}
	for r := rune(0x10000); r <= 0x10ffff; r++ {
		high, low, is := runes.Halves(r)
		if !is || high != 0xd800+(r-0x10000)/0x400 || low != 0xdc00+(r-0x10000)%0x400 {
			t.Fatalf("Halves(%x) = %x, %x, %v", r, high, low, is)
		}
	}
	none := func(r rune) {
		if high, low, is := runes.Halves(r); high != 0 || low != 0 || is {
			t.Errorf("Halves(%x) = %x, %x, %v", r, high, low, is)
		}
	}
	for r := rune(-0x400); r < 0x10000; r++ {
		none(r)
	}
	quit(t)
	for r := rune(0x110000); r <= lastTried; r++ {
		none(r)
	}
	for _, r := range edges {
		if r < 0x10000 || r > 0x10ffff {
			none(r)
		}
	}
}

// P1.4: decoding undoes encoding, of texts and of pairs.
func TestP1_4Inverse(t *testing.T) {
	for r := rune(0); r <= 0x10ffff; r++ {
		if !point(r) {
			continue
		}
		s := runes.Bytes(r)
		if got, n, is := runes.First(s); got != r || n != len(s) || !is || runes.Count(s) != 1 {
			t.Fatalf("First(Bytes(%x)) = %x, %d, %v", r, got, n, is)
		}
		if got, n, is := runes.First(s + "\xbf"); got != r || n != len(s) || !is {
			t.Fatalf("First(Bytes(%x) and more) = %x, %d, %v", r, got, n, is)
		}
		if high, low, is := runes.Halves(r); is {
			if got, ok := runes.Pair(high, low); got != r || !ok {
				t.Fatalf("Pair(Halves(%x)) = %x, %v", r, got, ok)
			}
		}
	}
}

// P1.4: no piece of an encoding is one.
func TestP1_4Inside(t *testing.T) {
	for r := rune(0x80); r <= 0x10ffff; r++ {
		s := runes.Bytes(r)
		for from := range len(s) {
			for to := from + 1; to <= len(s); to++ {
				if to-from < len(s) && runes.Valid(s[from:to]) {
					t.Fatalf("%x has %x inside", s, s[from:to])
				}
			}
		}
	}
}

// P1.4: texts cut between code points, and joined.
func TestP1_4Cut(t *testing.T) {
	var whole strings.Builder
	count := 0
	for _, r := range edges {
		s := runes.Bytes(r)
		if s != "" {
			count++
		}
		whole.WriteString(s)
		if !runes.Valid(whole.String()) || runes.Count(whole.String()) != count {
			t.Fatalf("joined up to %x", r)
		}
	}
	text := whole.String()
	cuts := map[int]int{0: 0} // where an encoding begins, and how many are ahead of it
	for at := 0; at < len(text); {
		_, n, is := runes.First(text[at:])
		if !is || n < 1 {
			t.Fatalf("First at %d", at)
		}
		cuts[at+n] = cuts[at] + 1
		at += n
	}
	for at := range len(text) + 1 {
		ahead, between := cuts[at]
		if runes.Valid(text[:at]) != between || runes.Valid(text[at:]) != between {
			t.Errorf("cut at %d", at)
		}
		if between && (runes.Count(text[:at]) != ahead || runes.Count(text[at:]) != count-ahead) {
			t.Errorf("count of what is cut at %d", at)
		}
	}
}
