package wal_test

import (
	"math"
	"testing"

	"codicil/api"
)

func TestP8_3Nil(t *testing.T) {
	for _, w := range unmade() {
		checkErr(t, "Sync", w.Sync(), api.ErrNil)
		for _, n := range []uint64{0, 1, 2, most, most + 1, math.MaxUint64} {
			checkErr(t, "Cut", w.Cut(n), api.ErrNil)
			checkErr(t, "Trim", w.Trim(n), api.ErrNil)
		}
		checkLog(t, w, 0, 0)
	}
}

func TestP8_3Sync(t *testing.T) {
	d := newDisk(t, 1000)
	w := checkOpen(t, d, 20, 1)
	for _, record := range []string{"a", "b", "c"} {
		checkErr(t, "Append", w.Append(record), api.OK)
	}
	checkErr(t, "Sync", w.Sync(), api.OK)
	checkErr(t, "Sync", w.Sync(), api.OK)
	if d.Loose() != 0 {
		t.Errorf("%d calls are loose", d.Loose())
	}
	checkErr(t, "Append", w.Append("d"), api.OK)
	d.Crash(-1, 0)
	w = checkOpen(t, d, 20, 1, "a", "b", "c")
	checkErr(t, "Append", w.Append("e"), api.OK)
	d.Fuse(0)
	checkErr(t, "Sync", w.Sync(), api.ErrDown)
	checkErr(t, "Sync", w.Sync(), api.ErrState)
}

// seven is a log of seven records, 4 to 10, two of which are in each segment: 4, 6, 8, 10.
func seven(t *testing.T) *pair {
	t.Helper()
	return run(t, 1000, 20, resetAt(4), add("a"), add("b"), add("c"), add("d"), add("e"), add("f"), add("g"))
}

func TestP8_3Cut(t *testing.T) {
	texts := []string{"a", "b", "c", "d", "e", "f", "g"}
	for _, c := range []struct {
		index   uint64
		numbers []uint64
	}{
		{4, []uint64{4}}, {5, []uint64{4}}, {6, []uint64{4}}, {7, []uint64{4, 6}}, {8, []uint64{4, 6}},
		{9, []uint64{4, 6, 8}}, {10, []uint64{4, 6, 8}}, {11, []uint64{4, 6, 8, 10}},
	} {
		p := seven(t)
		checkErr(t, "Cut", p.do(t, cutAt(c.index)), api.OK)
		checkLog(t, p.w, 4, c.index, c.numbers...)
		if p.d.Loose() != 0 {
			t.Errorf("Cut(%d): %d calls are loose", c.index, p.d.Loose())
		}
		p.d.Crash(-1, 0)
		checkOpen(t, p.d, 20, 4, texts[:c.index-4]...)
	}
}

func TestP8_3CutWrong(t *testing.T) {
	for _, index := range []uint64{0, 1, 3, 12, 13, most, most + 1, 1 << 63, math.MaxUint64} {
		p := seven(t)
		checkErr(t, "Cut", p.do(t, cutAt(index)), api.ErrArg)
		checkLog(t, p.w, 4, 11, 4, 6, 8, 10)
		if p.d.Loose() == 0 {
			t.Errorf("Cut(%d) has synced", index)
		}
	}
	p := run(t, 100, 20)
	checkErr(t, "Cut", p.do(t, cutAt(0)), api.ErrArg)
	checkErr(t, "Cut", p.do(t, cutAt(2)), api.ErrArg)
	checkErr(t, "Cut", p.do(t, cutAt(1)), api.OK)
}

// A log that was cut goes on from there, as often as may be.
func TestP8_3CutGoesOn(t *testing.T) {
	for first := uint64(4); first <= 11; first++ {
		for second := uint64(4); second <= first+2; second++ {
			p := seven(t)
			p.do(t, cutAt(first), add("new"), add(""), cutAt(second), add("again"), openWith(20), add("!"), cutAt(second), syncLog(), openWith(1), add("?"))
		}
	}
}

// Also where there is nothing to remove the disk is synced.
func TestP8_3CutSyncs(t *testing.T) {
	p := seven(t)
	p.do(t, cutAt(11))
	p.d.Crash(-1, 0)
	checkOpen(t, p.d, 20, 4, "a", "b", "c", "d", "e", "f", "g")
	p = seven(t)
	p.do(t, fuse(0))
	checkErr(t, "Cut", p.do(t, cutAt(11)), api.ErrDown)
}

// The first segment stays where it begins at index, an empty last one does not.
func TestP8_3CutEmpty(t *testing.T) {
	p := run(t, 40, 20, add("a"), add("b"), add("no room"))
	checkLog(t, p.w, 1, 3, 1, 3)
	p.do(t, cutAt(3))
	checkLog(t, p.w, 1, 3, 1)
	p.do(t, cutAt(1), cutAt(1), add("c"), cutAt(1))
	checkLog(t, p.w, 1, 1, 1)
	checkFiles(t, p.d, files{segment(1): ""})
}

func TestP8_3Trim(t *testing.T) {
	texts := []string{"a", "b", "c", "d", "e", "f", "g"}
	for _, c := range []struct {
		index, first uint64
		numbers      []uint64
	}{
		{0, 4, []uint64{4, 6, 8, 10}}, {1, 4, []uint64{4, 6, 8, 10}}, {4, 4, []uint64{4, 6, 8, 10}}, {5, 4, []uint64{4, 6, 8, 10}},
		{6, 6, []uint64{6, 8, 10}}, {7, 6, []uint64{6, 8, 10}}, {8, 8, []uint64{8, 10}}, {9, 8, []uint64{8, 10}}, {10, 10, []uint64{10}}, {11, 10, []uint64{10}},
	} {
		p := seven(t)
		loose := p.d.Loose()
		checkErr(t, "Trim", p.do(t, trimAt(c.index)), api.OK)
		checkLog(t, p.w, c.first, 11, c.numbers...)
		if c.first > 4 {
			loose = 0
		}
		if p.d.Loose() != loose {
			t.Errorf("Trim(%d): %d calls are loose, not %d", c.index, p.d.Loose(), loose)
		}
		checkOpen(t, p.d, 20, c.first, texts[c.first-4:]...)
		p.do(t, add("h"), add("i"), cutAt(c.first), trimAt(c.first), add("j"), openWith(20))
	}
}

func TestP8_3TrimWrong(t *testing.T) {
	for _, index := range []uint64{12, 13, most, most + 1, 1 << 63, math.MaxUint64} {
		p := seven(t)
		checkErr(t, "Trim", p.do(t, trimAt(index)), api.ErrArg)
		checkLog(t, p.w, 4, 11, 4, 6, 8, 10)
	}
}

// A log that is one segment stays; an empty last segment is one, too.
func TestP8_3TrimOne(t *testing.T) {
	p := run(t, 1000, 100, add("a"), add("b"), trimAt(3), fuse(0), trimAt(3), trimAt(0))
	checkLog(t, p.w, 1, 3, 1)
	p = run(t, 40, 20, add("a"), add("b"), add("no room"), trimAt(3))
	checkLog(t, p.w, 3, 3, 3)
	checkErr(t, "Append", p.do(t, add("no room")), api.OK)
	checkOpen(t, p.d, 20, 3, "no room")
	checkErr(t, "Cut", p.do(t, cutAt(2)), api.ErrArg)
}

// The disk fails at each call of each Cut and Trim: what was removed is gone.
func TestP8_3Fails(t *testing.T) {
	for index := uint64(4); index <= 11; index++ {
		for calls := range 6 {
			for _, o := range []op{cutAt(index), trimAt(index)} {
				for lost := range 8 {
					p := seven(t)
					p.do(t, syncLog(), fuse(calls), o, add("x"), crash(lost-1, 0), openWith(20), add("y"), syncLog(), openWith(20))
				}
			}
		}
	}
	p := seven(t)
	p.do(t, fuse(2), cutAt(5))
	checkLog(t, p.w, 4, 8, 4, 6)
	p = seven(t)
	p.do(t, fuse(3), cutAt(5))
	checkLog(t, p.w, 4, 6, 4)
	p = seven(t)
	p.do(t, fuse(4), cutAt(5))
	checkLog(t, p.w, 4, 5, 4)
	p = seven(t)
	p.do(t, fuse(2), trimAt(11))
	checkLog(t, p.w, 8, 11, 8, 10)
	p = seven(t)
	p.do(t, fuse(3), trimAt(11))
	checkLog(t, p.w, 10, 11, 10)
}

// The order in which files go is told by what a crash leaves.
func TestP8_3Order(t *testing.T) {
	for lost := range 4 {
		p := seven(t)
		p.do(t, syncLog(), fuse(3), cutAt(4), crash(lost, 0))
		names := []string{segment(4), segment(6), segment(8), segment(10)}[:4-lost]
		if got := p.d.Names(); len(got) != len(names) || got[len(got)-1] != names[len(names)-1] {
			t.Errorf("Cut, %d calls: %q, not %q", lost, got, names)
		}
		p = seven(t)
		p.do(t, syncLog(), fuse(3), trimAt(11), crash(lost, 0))
		if got := p.d.Names(); len(got) != 4-lost || got[0] != []string{segment(4), segment(6), segment(8), segment(10)}[lost] {
			t.Errorf("Trim, %d calls: %q", lost, got)
		}
	}
}
