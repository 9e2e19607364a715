package seg_test

import (
	"strings"
	"testing"
	"unsafe"

	"codicil/api"
	"codicil/seg"
)

// behinds has what may stand behind a frame.
func behinds() []string {
	return []string{
		"", "\x00", "a", "\x00\x00\x00", "\x00\x00\x00\x00", mixed(7, 1), mixed(8, 2), mixed(30, 3), strings.Repeat("\xff", 50),
		framed(""), framed("b"), framed("b")[:5], framed("bc") + framed("d") + "e", mixed(api.MaxRecord+100, 4),
	}
}

// flipped has one bit of s changed.
func flipped(s string, bit int) string {
	b := []byte(s)
	b[bit/8] ^= 1 << (bit % 8)
	return string(b)
}

// backwards has the bytes of s in the other order.
func backwards(s string) string {
	b := make([]byte, len(s))
	for i := range b {
		b[i] = s[len(s)-1-i]
	}
	return string(b)
}

func TestP7_2Known(t *testing.T) {
	checkRead(t, "\x00\x00\x00\x00\x1c\xdf\x44\x21\x00\x00\x00\x00", "")
	checkRead(t, "\x00\x00\x00\x01\x8a\xef\x43\x56a\x43\xbe\xb7\xe8", "a")
	checkRead(t, "\x00\x00\x00\x02\x30\xbe\x4a\xcfbc\x38\x2b\xa9\xc2", "bc")
	checkRead(t, "\x00\x00\x00\x09\xb8\x67\x98\x58123456789\x26\x39\xf4\xcb", "123456789")
}

func TestP7_2EachLength(t *testing.T) {
	for n := range 300 {
		checkRead(t, framed(mixed(n, uint32(n))), mixed(n, uint32(n)))
	}
	for _, n := range lengths() {
		for _, text := range []string{mixed(n, uint32(n)), strings.Repeat("\x00", n), strings.Repeat("\xff", n)} {
			checkRead(t, framed(text), text)
		}
	}
}

func TestP7_2Behind(t *testing.T) {
	for _, n := range []int{0, 1, 2, 8, 100, api.MaxRecord - 1, api.MaxRecord} {
		for _, behind := range behinds() {
			checkRead(t, framed(mixed(n, 5))+behind, mixed(n, 5))
		}
	}
}

// Fewer than 8 bytes are torn, whatever they are.
func TestP7_2Short(t *testing.T) {
	checkReadErr(t, "", api.ErrTorn)
	for i := range 256 {
		for n := range 8 {
			checkReadErr(t, strings.Repeat(string([]byte{byte(i)}), n), api.ErrTorn)
			checkReadErr(t, mixed(n, uint32(i)), api.ErrTorn)
			checkReadErr(t, head(uint32(i))[:n], api.ErrTorn)
			checkReadErr(t, head(uint32(i) << 24)[:n], api.ErrTorn)
		}
	}
}

// Eight bytes are enough to tell more than that they are torn.
func TestP7_2Eight(t *testing.T) {
	for _, length := range []uint32{0, 1, 2, 255, 256, api.MaxRecord - 1, api.MaxRecord} {
		checkReadErr(t, head(length), api.ErrTorn)
		checkReadErr(t, flipped(head(length), 40), api.ErrSum)
	}
	checkReadErr(t, head(api.MaxRecord+1), api.ErrLong)
	checkReadErr(t, flipped(head(api.MaxRecord+1), 40), api.ErrSum)
	checkReadErr(t, strings.Repeat("\x00", 8), api.ErrSum)
	checkReadErr(t, strings.Repeat("\xff", 8), api.ErrLong) // the sum of four ff is four ff
	checkReadErr(t, strings.Repeat("\xff", 7)+"\xfe", api.ErrSum)
}

// The sum of the number is wrong: nothing else is asked then.
func TestP7_2HeadSum(t *testing.T) {
	for _, length := range []uint32{0, 1, 5, 300, api.MaxRecord, api.MaxRecord + 1, 1 << 16, 1 << 31, 1<<32 - 1} {
		for bit := range 64 {
			wrong := flipped(head(length), bit)
			checkReadErr(t, wrong, api.ErrSum)
			checkReadErr(t, wrong+"abcde"+sum("abcde"), api.ErrSum)
			checkReadErr(t, wrong+"\x00", api.ErrSum)
			checkReadErr(t, wrong+strings.Repeat("\x00", api.MaxRecord+20), api.ErrSum)
		}
	}
}

// Each byte of the number counts, and each of its sum: in their order.
func TestP7_2Order(t *testing.T) {
	text := mixed(300, 9)
	number, behind := big(300), text+sum(text)
	checkRead(t, number+sum(number)+behind, text)
	checkReadErr(t, number+backwards(sum(number))+behind, api.ErrSum)
	checkReadErr(t, number+sum(backwards(number))+behind, api.ErrSum)
	checkReadErr(t, backwards(number)+sum(number)+behind, api.ErrSum)
	checkReadErr(t, sum(number)+number+behind, api.ErrSum)
	checkReadErr(t, backwards(number)+sum(backwards(number))+behind, api.ErrLong)
	checkReadErr(t, number+sum(number)+text+backwards(sum(text)), api.ErrSum)
	checkReadErr(t, number+sum(number)+sum(text)+text, api.ErrSum)
	checkReadErr(t, number+sum(number)+text+sum(head(300)+text), api.ErrSum)
	checkReadErr(t, number+sum(number)+text+sum(number+text), api.ErrSum)
	checkReadErr(t, number+sum(number)+text+sum(""), api.ErrSum)
	checkReadErr(t, number+sum(number+text)+behind, api.ErrSum)
	checkReadErr(t, number+behind, api.ErrSum)
}

// Numbers above MaxRecord, some of which would be small if they were cut to fewer bits.
func TestP7_2Long(t *testing.T) {
	text := mixed(5, 1)
	for _, length := range []uint32{
		api.MaxRecord + 1, api.MaxRecord + 2, api.MaxRecord + 12, 1 << 15, 1<<15 + 5, 1<<16 - 1, 1 << 16, 1<<16 + 5,
		1<<24 - 1, 1 << 24, 1<<24 + 5, 1<<31 - 12, 1<<31 - 1, 1 << 31, 1<<31 + 5, 1<<32 - 12, 1<<32 - 8, 1<<32 - 4, 1<<32 - 1,
	} {
		checkReadErr(t, head(length), api.ErrLong)
		checkReadErr(t, head(length)+"a", api.ErrLong)
		checkReadErr(t, head(length)+text+sum(text), api.ErrLong)
		checkReadErr(t, head(length)+mixed(1<<16, 2), api.ErrLong)
	}
	for _, n := range []int{api.MaxRecord + 1, api.MaxRecord + 2, 1 << 15, 1 << 16} {
		s := framed(mixed(n, 3))
		checkReadErr(t, s, api.ErrLong)
		checkReadErr(t, s[:len(s)-1], api.ErrLong)
		checkReadErr(t, flipped(s, 8*len(s)-1), api.ErrLong)
	}
	for bit := 15; bit < 32; bit++ {
		checkReadErr(t, head(1<<bit), api.ErrLong)
		checkReadErr(t, head(1<<bit+5)+text+sum(text), api.ErrLong)
	}
}

// A frame that ends anywhere, with its bytes as they were or altered.
func TestP7_2Torn(t *testing.T) {
	for _, n := range lengths() {
		s := framed(mixed(n, uint32(n)+4))
		step := 1 + n/500
		for end := 0; end < len(s); end += step {
			checkReadErr(t, s[:end], api.ErrTorn)
			if end > 8 {
				checkReadErr(t, flipped(s[:end], 64), api.ErrTorn)
				checkReadErr(t, flipped(s[:end], 8*end-1), api.ErrTorn)
			}
		}
		for end := len(s) - 6; end < len(s); end++ {
			checkReadErr(t, s[:end], api.ErrTorn)
		}
	}
	s := framed(mixed(api.MaxRecord, 3))
	for end := range len(s) {
		checkReadErr(t, s[:end], api.ErrTorn)
	}
}

// A text, or its sum, that was altered anywhere.
func TestP7_2TextSum(t *testing.T) {
	for n := range 40 {
		s := framed(mixed(n, uint32(n)+9))
		for bit := 64; bit < 8*len(s); bit++ {
			checkReadErr(t, flipped(s, bit), api.ErrSum)
			checkReadErr(t, flipped(s, bit)+framed("b"), api.ErrSum)
		}
	}
	s := framed(mixed(api.MaxRecord, 9))
	for _, bit := range []int{64, 65, 72, 1000, 4 * len(s), 8*len(s) - 40, 8*len(s) - 33, 8*len(s) - 32, 8*len(s) - 31, 8*len(s) - 1} {
		checkReadErr(t, flipped(s, bit), api.ErrSum)
	}
}

// A number that is right by its sum, but not the text's.
func TestP7_2OtherNumber(t *testing.T) {
	text := mixed(20, 2)
	behind := text + sum(text)
	for length := range uint32(60) {
		switch {
		case length < 20:
			checkReadErr(t, head(length)+behind, api.ErrSum)
		case length > 20:
			checkReadErr(t, head(length)+behind, api.ErrTorn)
			checkReadErr(t, head(length)+behind+mixed(100, 1), api.ErrSum)
		}
	}
	checkReadErr(t, head(0)+"a"+sum("a"), api.ErrSum)
	checkRead(t, head(0)+sum("")+"a"+sum("a"), "")
}

// What is handed in is not kept: its memory may become something else.
func TestP7_2Memory(t *testing.T) {
	memory := []byte(framed("abcdefgh"))
	s := unsafe.String(&memory[0], len(memory))
	text, _, _ := seg.Read(s)
	texts, _, _ := seg.Scan(s)
	frame, _ := seg.Frame(s)
	for i := range memory {
		memory[i] = '-'
	}
	if text != "abcdefgh" || len(texts) != 1 || texts[0] != "abcdefgh" || frame != framed(framed("abcdefgh")) {
		t.Errorf("%q, %q and a frame have the argument's memory", text, texts)
	}
}

func TestP7_2Again(t *testing.T) {
	s := framed(mixed(50, 8))
	for range 3 {
		checkRead(t, s, mixed(50, 8))
		checkReadErr(t, flipped(s, 3), api.ErrSum)
		checkReadErr(t, s[:20], api.ErrTorn)
		checkReadErr(t, head(1<<20), api.ErrLong)
	}
}
