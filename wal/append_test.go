package wal_test

import (
	"fmt"
	"strings"
	"testing"

	"codicil/api"
	"codicil/disk"
	"codicil/wal"
)

func TestP8_2Nil(t *testing.T) {
	for _, w := range unmade() {
		for _, record := range []string{"", "a", strings.Repeat("x", api.MaxRecord+1)} {
			checkErr(t, "Append", w.Append(record), api.ErrNil)
		}
		checkLog(t, w, 0, 0)
	}
}

// Records stand in frames, one behind the other; a segment that has size bytes is full.
func TestP8_2Segments(t *testing.T) {
	for _, c := range []struct {
		size    int
		records []string
		has     files
		numbers []uint64
	}{
		{20, []string{"a", "b", "c", "d", "e"}, files{segment(1): framedAll("a", "b"), segment(3): framedAll("c", "d"), segment(5): framed("e")}, []uint64{1, 3, 5}},
		{1, []string{"a", "b"}, files{segment(1): framed("a"), segment(2): framed("b")}, []uint64{1, 2}},
		{12, []string{"", "", ""}, files{segment(1): framed(""), segment(2): framed(""), segment(3): framed("")}, []uint64{1, 2, 3}},
		{13, []string{"", "", ""}, files{segment(1): framedAll("", ""), segment(3): framed("")}, []uint64{1, 3}},
		{26, []string{"a", "b", "c"}, files{segment(1): framedAll("a", "b"), segment(3): framed("c")}, []uint64{1, 3}},
		{27, []string{"a", "b", "c"}, files{segment(1): framedAll("a", "b", "c")}, []uint64{1}},
		{27, []string{"a", "b", "c", "d"}, files{segment(1): framedAll("a", "b", "c"), segment(4): framed("d")}, []uint64{1, 4}},
		{1 << 16, []string{"a", "b", "c", "d"}, files{segment(1): framedAll("a", "b", "c", "d")}, []uint64{1}},
		{20, []string{strings.Repeat("x", 5000), "a"}, files{segment(1): framed(strings.Repeat("x", 5000)), segment(2): framed("a")}, []uint64{1, 2}},
	} {
		d := newDisk(t, 10000)
		w := checkOpen(t, d, c.size, 1)
		for i, record := range c.records {
			checkErr(t, "Append", w.Append(record), api.OK)
			if w.Next() != uint64(i)+2 {
				t.Errorf("size %d, %d records: Next %d", c.size, i+1, w.Next())
			}
		}
		checkFiles(t, d, c.has)
		checkLog(t, w, 1, uint64(len(c.records))+1, c.numbers...)
		checkOpen(t, d, c.size, 1, c.records...)
	}
}

// The size is the one that Open was told last, whatever segments there are.
func TestP8_2OtherSize(t *testing.T) {
	p := newPair(t, 1000)
	p.do(t, openWith(1), add("a"), add("b"), openWith(100), add("c"), add("d"), openWith(39), add("e"), openWith(12), openWith(13), add("f"), add("g"))
	checkLog(t, p.w, 1, 8, 1, 2, 5, 6, 7)
}

// Nothing is synced: what a crash keeps is a beginning.
func TestP8_2Loose(t *testing.T) {
	d := newDisk(t, 1000)
	w := checkOpen(t, d, 20, 1)
	for i, loose := range []int{1, 2, 4, 5, 7} {
		checkErr(t, "Append", w.Append("a"), api.OK)
		if d.Loose() != loose {
			t.Errorf("%d records: %d calls are loose, not %d", i+1, d.Loose(), loose)
		}
	}
	checkErr(t, "Crash", d.Crash(4, 12), api.OK)
	checkFiles(t, d, files{segment(1): framedAll("a", "a"), segment(3): framed("a") + framed("a")[:12]})
	checkOpen(t, d, 20, 1, "a", "a", "a")
}

func TestP8_2Long(t *testing.T) {
	large := mixed(1<<14, 1)
	d := newDisk(t, 1<<17)
	w := checkOpen(t, d, api.MaxSegment, 1)
	checkErr(t, "Append of the longest", w.Append(large), api.OK)
	for _, n := range []int{1<<14 + 1, 1<<14 + 2, 1 << 15, 1 << 16, 1<<16 + 1, 1 << 20} {
		checkErr(t, "Append of a longer one", w.Append(strings.Repeat("x", n)), api.ErrLong)
	}
	checkLog(t, w, 1, 2, 1)
	for range 4 {
		checkErr(t, "Append", w.Append(large), api.OK)
	}
	// 4 * (2^14 + 12) is more than 2^16, so that the fifth one stands alone.
	checkLog(t, w, 1, 6, 1, 5)
	checkErr(t, "Append of a longer one", w.Append(large+"x"), api.ErrLong)
	checkErr(t, "Append", w.Append(""), api.OK)
	checkOpen(t, d, 1, 1, large, large, large, large, large, "")
}

func TestP8_2Over(t *testing.T) {
	for _, first := range []uint64{most, most - 1, most - 2, most - 5} {
		p := run(t, 1000, 20, resetAt(first))
		for range most - first {
			checkErr(t, "Append", p.do(t, add("a")), api.OK)
		}
		checkErr(t, "Append of a longer one", p.do(t, add(strings.Repeat("x", api.MaxRecord+1))), api.ErrLong)
		for range 3 {
			checkErr(t, "Append", p.do(t, add("a")), api.ErrOver)
		}
		p.do(t, openWith(20), add(""), cutAt(most), add(""))
		if p.w.Next() != most {
			t.Errorf("Next %d", p.w.Next())
		}
		if first < most {
			checkErr(t, "Append", p.do(t, cutAt(most-1), add("b")), api.OK)
		}
	}
}

// A segment that is full is of no matter where no record has a number any more.
func TestP8_2OverFull(t *testing.T) {
	p := run(t, 1000, 1, resetAt(most-1), add("a"), add("b"))
	checkLog(t, p.w, most-1, most, most-1)
	p.do(t, fuse(0))
	checkErr(t, "Append", p.do(t, add("b")), api.ErrOver)
	checkErr(t, "Append", p.do(t, add(strings.Repeat("x", api.MaxRecord+1))), api.ErrLong)
}

// Where there is no space for a record, the new segment remains; a shorter record goes into it.
func TestP8_2Space(t *testing.T) {
	p := run(t, 40, 20, add("a"), add("b"))
	checkErr(t, "Append", p.do(t, add("xyz")), api.ErrFull)
	checkLog(t, p.w, 1, 3, 1, 3)
	checkFiles(t, p.d, files{segment(1): framedAll("a", "b"), segment(3): ""})
	checkErr(t, "Append", p.do(t, add("xyz")), api.ErrFull)
	checkErr(t, "Append", p.do(t, add("xy")), api.OK)
	checkErr(t, "Append", p.do(t, add("")), api.ErrFull)
	checkErr(t, "Sync", p.do(t, syncLog()), api.OK)
	checkLog(t, p.w, 1, 4, 1, 3)
	for _, then := range [][]op{{openWith(20)}, {cutAt(3)}, {cutAt(2)}, {cutAt(1)}, {trimAt(3)}, {trimAt(2)}, {resetAt(9)}, {crash(1, 0), openWith(20)}, {file("x", ""), crash(9, 0), openWith(1), trimAt(3)}} {
		p := run(t, 40, 20, add("a"), add("b"), add("xyz"))
		p.do(t, then...)
		p.do(t, add("c"), add("xyz"), add("d"), trimAt(2), syncLog(), openWith(20))
	}
	p = run(t, 20, 100, add("abcdefgh"), add(""))
	checkLog(t, p.w, 1, 2, 1)
	checkErr(t, "Append", run(t, 11, 20).do(t, add("")), api.ErrFull)
}

// Where there are too many files there is no new segment, but the ones that are there are appended to.
func TestP8_2Files(t *testing.T) {
	p := newPair(t, 10000)
	for i := range api.MaxFiles - 2 {
		p.do(t, file(fmt.Sprintf("f%d", i), ""))
	}
	p.do(t, openWith(20), add("a"), add("b"), add("c"), add("d"))
	checkLog(t, p.w, 1, 5, 1, 3)
	checkErr(t, "Append", p.do(t, add("e")), api.ErrFull)
	checkErr(t, "Append", p.do(t, add("")), api.ErrFull)
	checkLog(t, p.w, 1, 5, 1, 3)
	checkErr(t, "Sync", p.do(t, syncLog()), api.OK)
	checkErr(t, "Append", p.do(t, trimAt(3), add("e")), api.OK)
	checkLog(t, p.w, 3, 6, 3, 5)
	checkErr(t, "Append", p.do(t, add("f"), add("g")), api.ErrFull)
	checkErr(t, "Append", p.do(t, removed("f7"), add("g")), api.OK)
	checkErr(t, "Reset", p.do(t, resetAt(1)), api.ErrFull)
}

// fallen is a log whose disk has told it that it has failed.
func fallen(t *testing.T) (*wal.Wal, *disk.Disk) {
	t.Helper()
	d := newDisk(t, 1000)
	w := checkOpen(t, d, 20, 1)
	checkErr(t, "Append", w.Append("a"), api.OK)
	d.Fuse(0)
	checkErr(t, "Append", w.Append("b"), api.ErrDown)
	return w, d
}

// A log that has been told so does nothing any more, be its disk there again or not.
func TestP8_2State(t *testing.T) {
	for _, again := range []func(d *disk.Disk){
		func(*disk.Disk) {},
		func(d *disk.Disk) { d.Fuse(-1) },
		func(d *disk.Disk) { d.Crash(1, 0) },
	} {
		w, d := fallen(t)
		again(d)
		for _, record := range []string{"", "a", strings.Repeat("x", api.MaxRecord+1)} {
			checkErr(t, "Append", w.Append(record), api.ErrState)
		}
		checkErr(t, "Sync", w.Sync(), api.ErrState)
		for _, n := range []uint64{0, 1, 2, 3, most + 1} {
			checkErr(t, "Cut", w.Cut(n), api.ErrState)
			checkErr(t, "Trim", w.Trim(n), api.ErrState)
			checkErr(t, "Reset", w.Reset(n), api.ErrState)
		}
		checkLog(t, w, 1, 2, 1)
		d.Crash(1, 0)
		checkFiles(t, d, files{segment(1): framed("a")})
		checkErr(t, "Append", checkOpen(t, d, 20, 1, "a").Append("b"), api.OK)
	}
}

// Each call tells the disk's failure once, and then that the log is done.
func TestP8_2StateOfAll(t *testing.T) {
	for _, o := range []op{add("c"), syncLog(), cutAt(1), cutAt(2), cutAt(3), trimAt(2), resetAt(5)} {
		for calls := range 6 {
			p := run(t, 1000, 1, add("a"), add("b"))
			p.do(t, fuse(calls), o, o, add("x"), syncLog(), cutAt(1), trimAt(1), resetAt(1), fuse(-1), add("x"), crash(0, 0), syncLog(), openWith(1), add("y"), syncLog())
		}
	}
}

// Other errors of the disk, and wrong arguments, leave the log as it was.
func TestP8_2NoState(t *testing.T) {
	p := run(t, 30, 20, add("a"))
	for _, o := range []op{add(mixed(20, 1)), add(mixed(api.MaxRecord+1, 1)), cutAt(0), cutAt(9), trimAt(9), resetAt(0), resetAt(most + 1)} {
		if p.do(t, o) == api.OK {
			t.Errorf("%v is done", o)
		}
		checkErr(t, "Sync", p.do(t, syncLog()), api.OK)
	}
	checkErr(t, "Append", p.do(t, add("bcd")), api.OK)
}

// A disk that has failed, but has not told it to the log, is asked only where there is something to do.
func TestP8_2NotTold(t *testing.T) {
	p := run(t, 1000, 1, add("a"), add("b"), fuse(0))
	for _, c := range []struct {
		op
		want api.Errno
	}{
		{add(mixed(api.MaxRecord+1, 1)), api.ErrLong}, {cutAt(0), api.ErrArg}, {cutAt(4), api.ErrArg}, {trimAt(4), api.ErrArg}, {resetAt(0), api.ErrArg},
		{trimAt(0), api.OK}, {trimAt(1), api.OK}, {add("c"), api.ErrDown}, {trimAt(1), api.ErrState},
	} {
		if got := p.do(t, c.op); got != c.want {
			t.Errorf("%v: %d, not %d", c.op, got, c.want)
		}
	}
}
