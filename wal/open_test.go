package wal_test

import (
	"math"
	"slices"
	"strconv"
	"strings"
	"testing"

	"codicil/api"
	"codicil/disk"
	"codicil/wal"
)

func TestP8_1Nil(t *testing.T) {
	for _, d := range []*disk.Disk{nil, {}, new(disk.Disk)} {
		for _, size := range []int{math.MinInt, -1, 0, 1, 100, api.MaxSegment, api.MaxSegment + 1} {
			checkRefused(t, d, size, api.ErrNil)
		}
	}
}

func TestP8_1Size(t *testing.T) {
	for _, size := range []int{math.MinInt, -100, -1, 0, 1<<16 + 1, 1 << 17, 1 << 32, 1<<32 + 1, math.MaxInt} {
		for _, has := range []files{{}, {segment(1): framed("a")}, {mark(4): ""}, {mark(4): "", mark(5): ""}, {"wal-x": ""}} {
			d := diskOf(t, 1000, has)
			checkRefused(t, d, size, api.ErrArg)
			checkFiles(t, d, has)
			checkErr(t, "Fuse", d.Fuse(0), api.OK)
			checkRefused(t, d, size, api.ErrArg)
		}
	}
	for _, size := range []int{1, 2, 12, 13, 1000, 1<<16 - 1, 1 << 16} {
		checkOpen(t, newDisk(t, 100), size, 1)
	}
}

// Where there is no segment one is created, durably.
func TestP8_1Empty(t *testing.T) {
	for _, has := range []files{
		{},
		{"vote": "x"},
		{"vote": "x", "snap-0000000000000001": "y", "wal": "", "wal_0000000000000001": "z", "reset": "", "awal-0000000000000001": "", "rese-t": ""},
	} {
		d := diskOf(t, 100, has)
		w := checkOpen(t, d, 20, 1)
		checkLog(t, w, 1, 1, 1)
		if d.Loose() != 0 {
			t.Errorf("%d calls are loose", d.Loose())
		}
		has[segment(1)] = ""
		checkFiles(t, d, has)
		checkErr(t, "Crash", d.Crash(-1, 0), api.OK)
		checkFiles(t, d, has)
		checkOpen(t, d, 20, 1)
	}
	checkOpen(t, newDisk(t, 0), 1, 1)
}

func TestP8_1EmptyFull(t *testing.T) {
	has := files{}
	for i := range api.MaxFiles {
		has["f"+strconv.Itoa(i)] = ""
	}
	d := diskOf(t, 100, has)
	checkRefused(t, d, 20, api.ErrFull)
	checkFiles(t, d, has)
	d.Remove("f7")
	delete(has, "f7")
	checkOpen(t, d, 20, 1)
	has[segment(1)] = ""
	checkFiles(t, d, has)
}

// wrongNumbers are what a name that has no number has behind its beginning.
func wrongNumbers() []string {
	return []string{
		"", "1", "0000000000000000", "000000000000001", "00000000000000001", "000000000000000g", "0001000000000001", "0001000000000002",
		"ffffffffffffffff", "1000000000000000", "0002000000000000", "-000000000000001", "0000000000000001.", "0000_00000000001", "0x00000000000001",
		"000000000000001-", "_000000000000001", ".", "new", "10000000000000001", "0000000000000001-1",
	}
}

func TestP8_1Names(t *testing.T) {
	for _, wrong := range wrongNumbers() {
		for _, has := range []files{
			{"wal-" + wrong: ""},
			{"wal-" + wrong: framed("a"), segment(1): framed("b")},
			{"wal-" + wrong: "", segment(9): "", "vote": "x"},
			{"wal-" + wrong: "", segment(1): framed("b") + "torn"},
		} {
			d := diskOf(t, 1000, has)
			checkRefused(t, d, 20, api.ErrBad)
			checkFiles(t, d, has)
		}
	}
	for _, right := range []uint64{1, 2, 9, 10, 15, 16, 0xabcdef, 1 << 32, 1<<48 - 1, 1 << 48} {
		d := diskOf(t, 1000, files{segment(right): ""})
		checkLog(t, checkOpen(t, d, 20, right), right, right, right)
		checkFiles(t, d, files{segment(right): ""})
	}
	checkOpen(t, diskOf(t, 100, files{"wal-0000000000abcdef": framed("x")}), 20, 0xabcdef, "x")
}

func TestP8_1Marks(t *testing.T) {
	for _, wrong := range wrongNumbers() {
		for _, has := range []files{
			{"reset-" + wrong: ""},
			{"reset-" + wrong: "", segment(1): framed("a")},
			{"reset-" + wrong: "", mark(1): "", segment(1): ""},
		} {
			d := diskOf(t, 1000, has)
			checkRefused(t, d, 20, api.ErrBad)
			checkFiles(t, d, has)
		}
	}
	for _, has := range []files{
		{mark(1): "", mark(2): ""},
		{mark(1): "", mark(2): "", mark(most): "", segment(1): framed("a")},
	} {
		d := diskOf(t, 1000, has)
		checkRefused(t, d, 20, api.ErrBad)
		checkFiles(t, d, has)
	}
}

// A mark takes the place of all that begins as a segment does, be it in order or not.
func TestP8_1Mark(t *testing.T) {
	for _, first := range []uint64{1, 2, 5, 0xabc, most - 1, most} {
		for _, more := range []files{
			{},
			{segment(1): ""},
			{segment(1): framedAll("a", "b"), segment(3): framed("c")},
			{segment(1): framedAll("a", "b"), segment(7): "torn", segment(8): ""},
			{segment(1): mixed(100, 1), "wal-": "", "wal-x": "y", segment(0): ""},
			{segment(first): framed("a")},
		} {
			has := files{mark(first): "", "vote": "x"}
			for name, data := range more {
				has[name] = data
			}
			d := diskOf(t, 1000, has)
			checkLog(t, checkOpen(t, d, 20, first), first, first, first)
			if d.Loose() != 0 {
				t.Errorf("%d calls are loose", d.Loose())
			}
			checkFiles(t, d, files{segment(first): "", "vote": "x"})
		}
	}
}

// What a mark has in it is what the segment has.
func TestP8_1MarkBytes(t *testing.T) {
	d := diskOf(t, 1000, files{mark(7): framedAll("x", "y"), segment(1): framed("a")})
	checkOpen(t, d, 20, 7, "x", "y")
	d = diskOf(t, 1000, files{mark(7): framedAll("x", "y")[:20], segment(1): framed("a")})
	checkOpen(t, d, 20, 7, "x")
	checkFiles(t, d, files{segment(7): framed("x")})
	d = diskOf(t, 1000, files{mark(7): mixed(20, 1), segment(1): framed("a")})
	checkRefused(t, d, 20, api.ErrBad)
	checkFiles(t, d, files{segment(7): mixed(20, 1)})
}

// flipped has one byte that is another.
func flipped(s string, at int) string {
	b := []byte(s)
	b[at] ^= 4
	return string(b)
}

// long is the head of a frame that is longer than any.
func long() string {
	length := "\x00\x00\x40\x01"
	f := framed(length)
	return length + f[len(f)-4:]
}

func TestP8_1Bad(t *testing.T) {
	ab := framedAll("a", "b")
	for i, has := range []files{
		{segment(1): ab, segment(2): framed("c")},
		{segment(1): ab, segment(4): framed("c")},
		{segment(1): ab, segment(3): framed("c"), segment(5): ""},
		{segment(1): ab, segment(3): "", segment(4): ""},
		{segment(1): "", segment(2): framed("c")},
		{segment(1): ab[:25], segment(3): framed("c")},
		{segment(1): ab[:25], segment(2): framed("c")},
		{segment(1): ab[:1], segment(2): framed("c")},
		{segment(1): ab + "x", segment(3): framed("c")},
		{segment(1): ab + "x", segment(3): ""},
		{segment(1): flipped(ab, 0), segment(3): ""},
		{segment(1): flipped(ab, 21), segment(3): ""},
		{segment(1): ab, segment(3): flipped(ab, 9)},
		{segment(1): ab, segment(3): flipped(ab, 25)},
		{segment(1): mixed(8, 1)},
		{segment(1): ab + mixed(8, 1)},
		{segment(1): long()},
		{segment(1): ab + long() + mixed(100, 2)},
		{segment(1): ab + long(), segment(3): ""},
		{segment(1): ab, segment(3): long()},
		{segment(most): framed("a")},
		{segment(most): framed("a") + "torn"},
		{segment(most - 1): ab},
		{segment(most - 1): framed("a"), segment(most): framed("b")},
		{segment(most - 2): ab, segment(most): framed("c")},
	} {
		d := diskOf(t, 1000, has)
		checkRefused(t, d, 20, api.ErrBad)
		checkFiles(t, d, has)
		if d.Loose() != 0 || t.Failed() {
			t.Fatalf("case %d: %d calls are loose", i, d.Loose())
		}
	}
}

func TestP8_1Records(t *testing.T) {
	var many []string
	for i := range 50 {
		many = append(many, mixed(i, uint32(i)))
	}
	large := mixed(api.MaxRecord, 1)
	for _, c := range []struct {
		has     files
		first   uint64
		records []string
		numbers []uint64
	}{
		{files{segment(1): ""}, 1, nil, []uint64{1}},
		{files{segment(1): framed("")}, 1, []string{""}, []uint64{1}},
		{files{segment(5): framedAll("a", "b"), segment(7): framed("c")}, 5, []string{"a", "b", "c"}, []uint64{5, 7}},
		{files{segment(5): framedAll("a", "b"), segment(7): ""}, 5, []string{"a", "b"}, []uint64{5, 7}},
		{files{segment(255): framed("\x00\xff"), segment(256): framedAll("", ""), segment(258): framed("z")}, 255, []string{"\x00\xff", "", "", "z"}, []uint64{255, 256, 258}},
		{files{segment(1): framedAll(many...), segment(51): framedAll(large, large), segment(53): framed("end")}, 1, slices.Concat(many, []string{large, large, "end"}), []uint64{1, 51, 53}},
		{files{segment(most): ""}, most, nil, []uint64{most}},
		{files{segment(most - 1): framed("a")}, most - 1, []string{"a"}, []uint64{most - 1}},
		{files{segment(most - 1): framed("a"), segment(most): ""}, most - 1, []string{"a"}, []uint64{most - 1, most}},
	} {
		for _, size := range []int{1, 20, api.MaxSegment} {
			d := diskOf(t, 100000, c.has)
			w := checkOpen(t, d, size, c.first, c.records...)
			checkLog(t, w, c.first, c.first+uint64(len(c.records)), c.numbers...)
			checkFiles(t, d, c.has)
		}
	}
}

// The last one is cut to what is whole, wherever it is torn, and durably; others are not.
func TestP8_1Torn(t *testing.T) {
	whole := framedAll("a", "", "bcd", mixed(30, 1))
	for _, first := range []uint64{1, 8, most - 4, most - 3} {
		for n := range len(whole) {
			texts, keep, err := scanned(whole[:n])
			d := diskOf(t, 1000, files{segment(first): whole[:n]})
			checkOpen(t, d, 20, first, texts...)
			if d.Loose() != 0 {
				t.Errorf("cut at %d: %d calls are loose", n, d.Loose())
			}
			checkFiles(t, d, files{segment(first): whole[:keep]})
			d = diskOf(t, 1000, files{segment(first): whole[:n]})
			d.Fuse(1)
			if err == api.OK { // nothing is torn, so nothing is done
				checkOpen(t, d, 20, first, texts...)
				checkErr(t, "Sync", d.Sync(), api.OK)
			} else {
				checkRefused(t, d, 20, api.ErrDown)
			}
		}
	}
	d := diskOf(t, 1000, files{segment(2): framed("x"), segment(3): framed("y") + framed("z")[:9]})
	checkLog(t, checkOpen(t, d, 20, 2, "x", "y"), 2, 4, 2, 3)
	d = diskOf(t, 1000, files{segment(most - 1): framed("x") + framed("z")[:9]})
	checkLog(t, checkOpen(t, d, 20, most-1, "x"), most-1, most, most-1)
}

// A log that has ended in a torn record goes on behind what is whole.
func TestP8_1TornGoesOn(t *testing.T) {
	for n := range 13 {
		p := newPair(t, 1000)
		p.do(t, file(segment(1), framed("a")+framed("b")[:n]), openWith(100), add("c"), add("d"), syncLog(), openWith(100), cutAt(2), add("e"), openWith(1), add("f"), openWith(50))
		checkLog(t, p.w, 1, 4, 1, 3)
	}
}

// starts are disks of all kinds.
func starts() [][]op {
	return [][]op{
		{},
		{file("vote", "x")},
		{file(segment(1), framed("a"))},
		{file(segment(1), framed("a")+"torn")},
		{file(segment(1), framed("a")), file(segment(2), framedAll("b", "c")+"torn")},
		{file(segment(1), framed("a")), file(segment(3), framed("b"))},
		{file(segment(1), framed("a")+"torn"), file(segment(2), framed("b"))},
		{file(segment(1), "something else")},
		{file("wal-1", "")},
		{file("wal-1", ""), file("reset-1", "")},
		{file(mark(3), ""), file(mark(4), "")},
		{file(mark(3), "")},
		{file(mark(3), ""), file(segment(1), framed("a")), file(segment(2), framed("b")), file(segment(3), "c")},
		{file(mark(3), framed("a")+"torn"), file(segment(2), framed("b"))},
		{file(mark(3), framed("a")+"something else"), file(segment(2), framed("b"))},
		{file(mark(3), ""), file("wal-", ""), file("wal-z", ""), file(segment(7), ""), file(segment(8), ""), file(segment(9), "")},
	}
}

// Each disk fails at each call; what Open then leaves is what the chapter's leaves, also behind each crash.
func TestP8_1Disk(t *testing.T) {
	for _, start := range starts() {
		for calls := range 12 {
			for lost := range 8 {
				p := newPair(t, 1000)
				p.do(t, start...)
				p.do(t, crash(len(start), 0), fuse(calls), openWith(20), openWith(20), crash(lost-1, 0), openWith(20), openWith(20))
			}
		}
	}
}

// A disk that has failed tells so, unless what is asked ahead of it is wrong.
func TestP8_1Down(t *testing.T) {
	for _, c := range []struct {
		has  files
		want api.Errno
	}{
		{files{}, api.ErrDown},
		{files{segment(1): ""}, api.ErrDown},
		{files{segment(1): "something else"}, api.ErrDown},
		{files{mark(1): ""}, api.ErrDown},
		{files{mark(1): "", "wal-": ""}, api.ErrDown},
		{files{mark(1): "", mark(2): ""}, api.ErrBad},
		{files{"wal-": ""}, api.ErrBad},
	} {
		d := diskOf(t, 1000, c.has)
		d.Fuse(0)
		checkRefused(t, d, 20, c.want)
	}
}

// Two calls suffice to create a segment, but not to read it.
func TestP8_1Read(t *testing.T) {
	d := newDisk(t, 100)
	d.Fuse(2)
	checkRefused(t, d, 20, api.ErrDown)
	d.Crash(0, 0)
	checkFiles(t, d, files{segment(1): ""})
	d = diskOf(t, 100, files{mark(2): ""})
	d.Fuse(2)
	checkRefused(t, d, 20, api.ErrDown)
	d.Crash(0, 0)
	checkFiles(t, d, files{segment(2): ""})
	d = diskOf(t, 100, files{segment(2): framed("a") + "torn"})
	d.Fuse(2)
	checkOpen(t, d, 20, 2, "a")
}

// What is answered is nobody else's.
func TestP8_1New(t *testing.T) {
	d := diskOf(t, 1000, files{segment(1): framedAll("a", "b"), segment(3): framed("c")})
	w, kept, _ := wal.Open(d, 20)
	for i := range kept.Records {
		kept.Records[i] = strings.Repeat("other", 100)
	}
	_ = append(kept.Records[:0], "another")
	numbers := w.Segments()
	numbers[0] = 77
	checkLog(t, w, 1, 4, 1, 3)
	checkErr(t, "Cut", w.Cut(3), api.OK)
	checkOpen(t, d, 20, 1, "a", "b")
	// Two logs on two disks have nothing in common.
	e := newDisk(t, 1000)
	v := checkOpen(t, e, 1, 1)
	checkErr(t, "Append", v.Append("x"), api.OK)
	e.Fuse(0)
	checkErr(t, "Sync", v.Sync(), api.ErrDown)
	checkErr(t, "Sync", w.Sync(), api.OK)
	checkErr(t, "Append", v.Append("x"), api.ErrState)
	checkErr(t, "Append", w.Append("x"), api.OK)
}
