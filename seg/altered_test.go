package seg_test

import (
	"math"
	"strings"
	"testing"

	"codicil/api"
	"codicil/seg"
)

// altered has the bits of s changed that pattern has, from bit at on; those that would stand behind its end are left out. Bits are numbered as the checksum takes them: the lowest of a byte first.
func altered(s string, at int, pattern uint32) string {
	b := []byte(s)
	for i := range 32 {
		if bit := at + i; pattern>>i&1 == 1 && bit < 8*len(b) {
			b[bit/8] ^= 1 << (bit % 8)
		}
	}
	return string(b)
}

// firstChanged tells the first byte in which two texts differ.
func firstChanged(a, b string) int {
	for i := range len(a) {
		if a[i] != b[i] {
			return i
		}
	}
	return len(a)
}

// patterns has all ones, each bit alone, each pair of bits, what is left of all ones without it, each run of ones, the checksum's own polynomial, and some that are mixed.
func patterns() []uint32 {
	list := []uint32{math.MaxUint32, 0xedb88320, 0xdb710641}
	for i := range 32 {
		for j := range i + 1 {
			pair := uint32(1)<<i | uint32(1)<<j
			list = append(list, pair, ^pair, uint32(1)<<i-uint32(1)<<j|uint32(1)<<i)
		}
	}
	seed := uint32(1)
	for range 100 {
		seed = seed*1664525 + 1013904223
		list = append(list, seed)
	}
	return list
}

// checkAltered has an alteration seen in the frame in which it begins; the frames ahead of that one are read.
func checkAltered(t *testing.T, texts []string, s string, at int, pattern uint32) {
	t.Helper()
	wrong := altered(s, at, pattern)
	changed := firstChanged(s, wrong)
	if changed == len(s) {
		return
	}
	good, n := 0, 0
	for n+len(texts[good])+12 <= changed {
		n += len(texts[good]) + 12
		good++
	}
	checkScan(t, wrong, texts[:good], n, api.ErrSum)
	checkReadErr(t, wrong[n:], api.ErrSum)
}

func TestP7_4Back(t *testing.T) {
	var all []string
	var s strings.Builder
	for i := range 700 {
		n := i
		if i >= 600 {
			n = api.MaxRecord - i + 600
		}
		text := mixed(n, uint32(i))
		frame, err := seg.Frame(text)
		if err != api.OK {
			t.Fatalf("Frame(%d bytes): %d", n, err)
		}
		checkRead(t, frame, text)
		checkScan(t, frame, []string{text}, len(frame), api.OK)
		all = append(all, text)
		s.WriteString(frame)
	}
	checkScan(t, s.String(), all, s.Len(), api.OK)
}

// All texts of one byte and of two.
func TestP7_4BackShort(t *testing.T) {
	for i := range 256 {
		one := string([]byte{byte(i)})
		frame, _ := seg.Frame(one)
		checkRead(t, frame, one)
		for j := range 256 {
			two := string([]byte{byte(i), byte(j)})
			other, _ := seg.Frame(two)
			checkRead(t, other, two)
			checkScan(t, frame+other, []string{one, two}, 27, api.OK)
		}
	}
}

// What was read is written as the same bytes.
func TestP7_4Written(t *testing.T) {
	for _, texts := range runsOfTexts() {
		s := framedAll(texts)
		got, _, _ := seg.Scan(s)
		var again strings.Builder
		for _, text := range got {
			frame, _ := seg.Frame(text)
			again.WriteString(frame)
		}
		if again.String() != s {
			t.Errorf("%d texts are written as other bytes", len(got))
		}
	}
}

// Frames that end anywhere: the complete ones are read, and the rest is torn, if there is one.
func TestP7_4Truncated(t *testing.T) {
	for _, texts := range [][]string{
		{""}, {"a"}, {"", "", ""}, {"a", "bc", "def", "", "ghijklmnop"}, {mixed(300, 1), mixed(257, 2), mixed(500, 3)},
		{"a", mixed(api.MaxRecord, 4)}, {"\x00\x00\x00\x00", strings.Repeat("\x00", 40), strings.Repeat("\xff", 40)},
		{framed("a") + framed("b"), framed("c"), head(0)},
	} {
		s := framedAll(texts)
		good, n := 0, 0
		for end := range len(s) + 1 {
			if good < len(texts) && end == n+len(texts[good])+12 {
				n = end
				good++
			}
			want := api.ErrTorn
			if end == n {
				want = api.OK
			}
			checkScan(t, s[:end], texts[:good], n, want)
		}
	}
}

// Every place of frames, one behind another: within the number, each checksum and the text, and across two of them, and two frames.
func TestP7_4AlteredAnywhere(t *testing.T) {
	list := patterns()
	for _, texts := range [][]string{
		{""}, {"a"}, {"", ""}, {"abc", "", "d"}, {"abcd", "efgh"}, {"\x00\x00\x00\x00\x00", "\xff\xff\xff\xff\xff"}, {mixed(20, 3), "x"},
	} {
		s := framedAll(texts)
		for at := range 8 * len(s) {
			for _, pattern := range list {
				checkAltered(t, texts, s, at, pattern)
			}
		}
	}
}

// All alterations within ten bits, at each place.
func TestP7_4AllOfTenBits(t *testing.T) {
	for _, texts := range [][]string{{""}, {"a", "bcdef"}} {
		s := framedAll(texts)
		for at := range 8 * len(s) {
			for pattern := range uint32(1 << 10) {
				checkAltered(t, texts, s, at, pattern)
			}
		}
	}
}

// The seams: where a number, a checksum or a text ends.
func TestP7_4AlteredSeams(t *testing.T) {
	for _, n := range []int{0, 1, 2, 3, 4, 5, 16, 200, 255, 256, 4096, api.MaxRecord} {
		texts := []string{mixed(n, 1), mixed(n, 2)}
		s := framedAll(texts)
		for _, seam := range []int{4, 8, 8 + n, 12 + n, 16 + n, 20 + n, 20 + 2*n} {
			for _, pattern := range []uint32{math.MaxUint32, 0x80000001, 0x00018000, 0xedb88320, 0xdb710641, mixedNumber(uint32(n))} {
				for at := 8*seam - 31; at < 8*seam; at += 3 {
					checkAltered(t, texts, s, at, pattern)
				}
			}
		}
	}
}

func mixedNumber(seed uint32) uint32 {
	return seed*1664525 + 1013904223 | 1<<31 | 1
}

// Each byte of a frame, altered in each way.
func TestP7_4AlteredBytes(t *testing.T) {
	texts := []string{"ab", "cde"}
	s := framedAll(texts)
	for at := range s {
		for by := uint32(1); by < 256; by++ {
			checkAltered(t, texts, s, 8*at, by)
		}
	}
}

// A number that was altered is not taken for one, even if the frame would be torn or too long by it, and even if its bytes end early.
func TestP7_4NeverTorn(t *testing.T) {
	for _, n := range []int{0, 1, 5, 300, api.MaxRecord} {
		s := framed(mixed(n, 1))
		for bit := range 64 {
			wrong := flipped(s, bit)
			for _, end := range []int{8, 9, 12, len(s) - 1, len(s)} {
				if end >= 8 && end <= len(s) {
					checkReadErr(t, wrong[:end], api.ErrSum)
					checkScan(t, wrong[:end], nil, 0, api.ErrSum)
					checkScan(t, framed("x")+wrong[:end], []string{"x"}, 13, api.ErrSum)
				}
			}
		}
	}
}
