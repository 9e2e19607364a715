package seg_test

import (
	"encoding/binary"
	"hash/crc32"
	"slices"
	"strings"
	"testing"

	"codicil/api"
	"codicil/seg"
)

// mixed answers n bytes that look like nothing in particular, the same ones each time.
func mixed(n int, seed uint32) string {
	b := make([]byte, n)
	for i := range b {
		seed = seed*1664525 + 1013904223
		b[i] = byte(seed >> 24)
	}
	return string(b)
}

// big has a number's four bytes, the highest first.
func big(x uint32) string {
	return string(binary.BigEndian.AppendUint32(nil, x))
}

// sum has the four bytes of a checksum, the lowest first.
func sum(s string) string {
	return string(binary.LittleEndian.AppendUint32(nil, crc32.ChecksumIEEE([]byte(s))))
}

// head has the first eight bytes of a frame.
func head(length uint32) string {
	return big(length) + sum(big(length))
}

// framed is the chapter's definition of a frame.
func framed(text string) string {
	return head(uint32(len(text))) + text + sum(text)
}

// framedAll has the frames of all texts.
func framedAll(texts []string) string {
	var all strings.Builder
	for _, text := range texts {
		all.WriteString(framed(text))
	}
	return all.String()
}

// lengths has those at which something changes, and their neighbours.
func lengths() []int {
	list := []int{
		0, 1, 2, 3, 4, 5, 7, 8, 9, 11, 12, 13, 63, 64, 127, 128, 129, 247, 248,
		255, 256, 257, 511, 512, 1000, 4095, 4096, 4097, 8191, 8192,
	}
	return append(list, api.MaxRecord-api.FrameMore, api.MaxRecord-8, api.MaxRecord-1, api.MaxRecord)
}

func checkFrame(t *testing.T, text string) {
	t.Helper()
	if got, err := seg.Frame(text); got != framed(text) || err != api.OK {
		t.Errorf("Frame(%d bytes, %.20q): %.60x, %d, not %.60x", len(text), text, got, err, framed(text))
	}
}

func checkTooLong(t *testing.T, text string) {
	t.Helper()
	if got, err := seg.Frame(text); got != "" || err != api.ErrLong {
		t.Errorf("Frame(%d bytes): %d bytes, %d", len(text), len(got), err)
	}
}

func checkRead(t *testing.T, s, text string) {
	t.Helper()
	got, n, err := seg.Read(s)
	if got != text || n != len(text)+12 || err != api.OK {
		t.Errorf("Read(%d bytes, %.40x): %d bytes, %.20q, %d, %d, not %d, %.20q", len(s), s, len(got), got, n, err, len(text), text)
	}
}

// checkReadErr has a fault told, and nothing beside it.
func checkReadErr(t *testing.T, s string, want api.Errno) {
	t.Helper()
	if text, n, err := seg.Read(s); text != "" || n != 0 || err != want {
		t.Errorf("Read(%d bytes, %.60x): %.20q, %d, %d, not %d", len(s), s, text, n, err, want)
	}
}

func checkScan(t *testing.T, s string, texts []string, n int, want api.Errno) {
	t.Helper()
	got, m, err := seg.Scan(s)
	if !slices.Equal(got, texts) || m != n || err != want {
		t.Errorf("Scan(%d bytes, %.60x): %d texts %.40q, %d, %d, not %d %.40q, %d, %d", len(s), s, len(got), got, m, err, len(texts), texts, n, want)
	}
}

func TestP7_1Known(t *testing.T) {
	for _, c := range []struct{ text, want string }{
		{"", "\x00\x00\x00\x00\x1c\xdf\x44\x21\x00\x00\x00\x00"},
		{"a", "\x00\x00\x00\x01\x8a\xef\x43\x56a\x43\xbe\xb7\xe8"},
		{"bc", "\x00\x00\x00\x02\x30\xbe\x4a\xcfbc\x38\x2b\xa9\xc2"},
		{"\xe2\x82\xac", "\x00\x00\x00\x03\xa6\x8e\x4d\xb8\xe2\x82\xac\xd6\xc8\xf2\x83"},
		{"\x00\x00\x00\x00", "\x00\x00\x00\x04\x05\x1b\x29\x26\x00\x00\x00\x00\x1c\xdf\x44\x21"},
		{"\xff\xff\xff\xff", "\x00\x00\x00\x04\x05\x1b\x29\x26\xff\xff\xff\xff\xff\xff\xff\xff"},
		{"123456789", "\x00\x00\x00\x09\xb8\x67\x98\x58123456789\x26\x39\xf4\xcb"},
		{strings.Repeat("x", 256), "\x00\x00\x01\x00\x5d\xee\x5f\x38" + strings.Repeat("x", 256) + "\x10\x1a\xee\x73"},
	} {
		if got, err := seg.Frame(c.text); got != c.want || err != api.OK {
			t.Errorf("Frame(%.20q): %x, %d, not %x", c.text, got, err, c.want)
		}
	}
}

func TestP7_1EachLength(t *testing.T) {
	for n := range 600 {
		checkFrame(t, mixed(n, uint32(n)))
	}
	for _, n := range lengths() {
		checkFrame(t, mixed(n, uint32(n)))
		checkFrame(t, strings.Repeat("\x00", n))
		checkFrame(t, strings.Repeat("\xff", n))
	}
}

// All texts of one byte and of two.
func TestP7_1Short(t *testing.T) {
	for i := range 256 {
		checkFrame(t, string([]byte{byte(i)}))
		for j := range 256 {
			checkFrame(t, string([]byte{byte(i), byte(j)}))
		}
	}
}

// MaxRecord is 2^14.
func TestP7_1Most(t *testing.T) {
	text := mixed(1<<14, 1)
	checkFrame(t, text)
	if got, _ := seg.Frame(text); len(got) != 1<<14+12 || got[:8] != "\x00\x00\x40\x00\x19\x90\x3d\xd1" {
		t.Errorf("Frame(%d bytes): %d bytes, %.8x", len(text), len(got), got)
	}
	for _, n := range []int{1<<14 + 1, 1<<14 + 2, 1<<14 + 11, 1<<14 + 12, 1<<14 + 13, 1 << 15, 1<<16 - 1, 1 << 16, 1<<16 + 1, 1<<20 + 5, 1<<24 + 1} {
		checkTooLong(t, mixed(n, 1))
		checkTooLong(t, strings.Repeat("\x00", n))
	}
}

// It is bytes that are counted, be they UTF-8 or not.
func TestP7_1Bytes(t *testing.T) {
	euro := "\xe2\x82\xac"
	checkFrame(t, euro+"\xff\x80\x00\xc0"+euro)
	checkFrame(t, strings.Repeat(euro, api.MaxRecord/3))
	checkFrame(t, strings.Repeat(euro, api.MaxRecord/3)+"\x80")
	checkTooLong(t, strings.Repeat(euro, api.MaxRecord/3)+"\xe2\x82")
	checkTooLong(t, strings.Repeat(euro, api.MaxRecord/3+1))
	checkTooLong(t, strings.Repeat("\xff", api.MaxRecord+1))
}

// A frame is a text as any other, and so are parts of one.
func TestP7_1Frames(t *testing.T) {
	s := framed("abc")
	for range 20 {
		checkFrame(t, s)
		checkFrame(t, s[:len(s)-1])
		checkFrame(t, s[1:])
		checkFrame(t, s+s)
		s = framed(s)
	}
	checkFrame(t, framed(mixed(api.MaxRecord-12, 1)))
	checkTooLong(t, framed(mixed(api.MaxRecord-11, 1)))
}

func TestP7_1Again(t *testing.T) {
	text := mixed(300, 7)
	first, _ := seg.Frame(text)
	checkTooLong(t, strings.Repeat("x", api.MaxRecord+1))
	seg.Scan(first + first[:9])
	checkFrame(t, "another one")
	checkFrame(t, text)
	if first != framed(text) {
		t.Error("a frame is another one when more are made")
	}
}
