package seg_test

import (
	"encoding/binary"
	"hash/crc32"
	"slices"
	"strings"
	"testing"

	"codicil/api"
	"codicil/seg"
)

// rest is what may stand behind frames, and what is wrong with it.
type rest struct {
	s    string
	want api.Errno
}

func rests() []rest {
	long := framed(mixed(api.MaxRecord, 6))
	list := []rest{
		{head(0), api.ErrTorn},
		{head(api.MaxRecord), api.ErrTorn},
		{long[:len(long)-1], api.ErrTorn},
		{flipped(framed("abcdef"), 64)[:17], api.ErrTorn},
		{head(api.MaxRecord + 1), api.ErrLong},
		{head(1<<32 - 1), api.ErrLong},
		{framed(mixed(api.MaxRecord+1, 6)), api.ErrLong},
		{mixed(100, 1), api.ErrSum},
		{strings.Repeat("\x00", 8), api.ErrSum},
		{strings.Repeat("\x00", 12), api.ErrSum},
		{strings.Repeat("\x00", 1000), api.ErrSum},
		{flipped(head(0), 0), api.ErrSum},
		{flipped(head(1<<20), 0), api.ErrSum},
	}
	s := framed("abcdef")
	for end := 1; end < len(s); end++ {
		list = append(list, rest{s[:end], api.ErrTorn})
	}
	for bit := range 8 * len(s) {
		list = append(list, rest{flipped(s, bit), api.ErrSum})
	}
	return list
}

// runsOfTexts has lists of texts: none, one, many; short ones, empty ones, long ones.
func runsOfTexts() [][]string {
	list := [][]string{
		nil, {""}, {"a"}, {"", ""}, {"", "a", ""}, {"abc", "abc"}, {"\x00", "\x00\x00"},
		{mixed(api.MaxRecord, 1)},
		{mixed(api.MaxRecord, 1), "", mixed(api.MaxRecord, 2), "x", mixed(api.MaxRecord-1, 3)},
		{framed("a"), framed("b") + framed("c"), framed("d")[:5], head(3), head(1 << 20)},
	}
	var many []string
	for n := range 100 {
		many = append(many, mixed(n*n%257, uint32(n)))
		list = append(list, slices.Clone(many))
	}
	return list
}

func TestP7_3Known(t *testing.T) {
	checkScan(t, "", nil, 0, api.OK)
	a, b := "\x00\x00\x00\x01\x8a\xef\x43\x56a\x43\xbe\xb7\xe8", "\x00\x00\x00\x02\x30\xbe\x4a\xcfbc\x38\x2b\xa9\xc2"
	checkScan(t, a, []string{"a"}, 13, api.OK)
	checkScan(t, a+b, []string{"a", "bc"}, 27, api.OK)
	checkScan(t, b+a, []string{"bc", "a"}, 27, api.OK)
	checkScan(t, a+b+a[:5], []string{"a", "bc"}, 27, api.ErrTorn)
	checkScan(t, a[:5], nil, 0, api.ErrTorn)
}

// Nothing is left.
func TestP7_3Whole(t *testing.T) {
	for _, texts := range runsOfTexts() {
		s := framedAll(texts)
		checkScan(t, s, texts, len(s), api.OK)
	}
}

// Something is left: what stands ahead of it is told, too.
func TestP7_3Rest(t *testing.T) {
	runs := runsOfTexts()
	for _, r := range rests() {
		checkScan(t, r.s, nil, 0, r.want)
		checkReadErr(t, r.s, r.want)
		for _, texts := range slices.Concat(runs[:10], runs[40:41]) {
			s := framedAll(texts)
			checkScan(t, s+r.s, texts, len(s), r.want)
		}
	}
}

// Nothing that stands behind a fault is told.
func TestP7_3Behind(t *testing.T) {
	for _, r := range rests() {
		if r.want == api.ErrTorn {
			continue // it would go on behind its end
		}
		for _, texts := range runsOfTexts()[:6] {
			s := framedAll(texts)
			checkScan(t, s+r.s+framed("b"), texts, len(s), r.want)
			checkScan(t, s+r.s+framed("")+framed("cd"), texts, len(s), r.want)
			checkScan(t, s+r.s+r.s, texts, len(s), r.want)
		}
	}
	// A torn frame that takes the next one's bytes for its own.
	checkScan(t, framed("x")+framed("abcdef")[:12]+framed("b"), []string{"x"}, 13, api.ErrSum)
	checkScan(t, framed("x")+framed(mixed(500, 1))[:12]+framed("b"), []string{"x"}, 13, api.ErrTorn)
}

// What stands in a text is not looked at, be it frames or not.
func TestP7_3Within(t *testing.T) {
	inner := framed("a") + framed("b")
	checkScan(t, framed(inner), []string{inner}, len(inner)+12, api.OK)
	checkScan(t, framed(inner)+inner, []string{inner, "a", "b"}, 2*len(inner)+12, api.OK)
	wrong := flipped(inner, 0)
	checkScan(t, framed(wrong)+framed("c"), []string{wrong, "c"}, len(wrong)+25, api.OK)
}

func TestP7_3Many(t *testing.T) {
	short := slices.Repeat([]string{"", "a", "bc"}, 40000)
	s := framedAll(short)
	checkScan(t, s, short, len(s), api.OK)
	checkScan(t, s+"\x00", short, len(s), api.ErrTorn)
	long := slices.Repeat([]string{mixed(api.MaxRecord, 3)}, 200)
	s = framedAll(long)
	checkScan(t, s, long, len(s), api.OK)
	checkScan(t, s[:len(s)-1], long[1:], len(s)-api.MaxRecord-12, api.ErrTorn)
}

// An answer is new: what becomes of it changes no other one.
func TestP7_3Again(t *testing.T) {
	texts := []string{"a", "bc", "", "def"}
	s := framedAll(texts)
	for range 3 {
		got, _, _ := seg.Scan(s)
		for i := range got {
			got[i] = "other"
		}
		_ = append(got[:0], "another")
		checkScan(t, s, texts, len(s), api.OK)
		checkScan(t, s+"x", texts, len(s), api.ErrTorn)
		checkScan(t, "", nil, 0, api.OK)
	}
}

// defined is the chapter's Read.
func defined(s string) (string, int, api.Errno) {
	if len(s) < 8 {
		return "", 0, api.ErrTorn
	}
	b := []byte(s)
	if binary.LittleEndian.Uint32(b[4:]) != crc32.ChecksumIEEE(b[:4]) {
		return "", 0, api.ErrSum
	}
	length := int64(binary.BigEndian.Uint32(b))
	if length > 1<<14 {
		return "", 0, api.ErrLong
	}
	if int64(len(s)) < length+12 {
		return "", 0, api.ErrTorn
	}
	if binary.LittleEndian.Uint32(b[8+length:]) != crc32.ChecksumIEEE(b[8:8+length]) {
		return "", 0, api.ErrSum
	}
	return s[8 : 8+length], int(length) + 12, api.OK
}

// checkAsDefined holds Read and Scan against the chapter.
func checkAsDefined(t *testing.T, s string) {
	t.Helper()
	text, n, err := defined(s)
	if err == api.OK {
		checkRead(t, s, text)
	} else {
		checkReadErr(t, s, err)
	}
	var texts []string
	at := 0
	for at < len(s) && err == api.OK {
		texts = append(texts, text)
		at += n
		text, n, err = defined(s[at:])
	}
	if at == len(s) {
		err = api.OK
	}
	checkScan(t, s, texts, at, err)
}

// All runs of four of some pieces, some of which are frames together.
func TestP7_3Pieces(t *testing.T) {
	pieces := []string{
		"", "a", "\x00", "bc", head(0), head(1), head(2), head(13), head(1 << 14), head(1<<14 + 1), head(1<<32 - 1),
		sum("a"), sum(""), sum("bc"), framed(""), framed("a"), framed("abc"), flipped(head(1), 0), flipped(framed("a"), 64),
	}
	for _, a := range pieces {
		for _, b := range pieces {
			for _, c := range pieces {
				for _, d := range pieces {
					checkAsDefined(t, a+b+c+d)
				}
			}
		}
	}
}

// Frames of which bytes are taken out, put in, doubled or changed.
func TestP7_3Mixed(t *testing.T) {
	seed := uint32(77)
	next := func(most int) int {
		seed = seed*1664525 + 1013904223
		return int(seed>>8) % (most + 1)
	}
	for range 20000 {
		var texts []string
		for range next(4) {
			texts = append(texts, mixed(next(40), seed))
		}
		s := framedAll(texts)
		for range next(2) {
			from := next(len(s))
			to := from + next(min(20, len(s)-from))
			switch next(3) {
			case 0:
				s = s[:from] + s[to:]
			case 1:
				s = s[:to] + s[from:]
			case 2:
				s = s[:from] + mixed(to-from, seed) + s[to:]
			default:
				s = s[:to]
			}
		}
		checkAsDefined(t, s)
	}
}
