package wal_test

import (
	"fmt"
	"math"
	"slices"
	"testing"

	"codicil/api"
)

func TestP8_4Nil(t *testing.T) {
	for _, w := range unmade() {
		for _, n := range []uint64{0, 1, most, most + 1} {
			checkErr(t, "Reset", w.Reset(n), api.ErrNil)
		}
		if w.First() != 0 || w.Next() != 0 || len(w.Segments()) != 0 {
			t.Errorf("a log that is none: %d, %d, %d", w.First(), w.Next(), w.Segments())
		}
	}
}

func TestP8_4Reset(t *testing.T) {
	for _, first := range []uint64{1, 2, 3, 4, 5, 6, 9, 10, 11, 12, 100, 0xabcdef, most - 1, most} {
		p := seven(t)
		checkErr(t, "Reset", p.do(t, resetAt(first)), api.OK)
		checkLog(t, p.w, first, first, first)
		if p.d.Loose() != 0 {
			t.Errorf("Reset(%d): %d calls are loose", first, p.d.Loose())
		}
		p.d.Crash(-1, 0)
		checkFiles(t, p.d, files{segment(first): ""})
		w := checkOpen(t, p.d, 20, first)
		if first < most {
			checkErr(t, "Append", w.Append("new"), api.OK)
			checkOpen(t, p.d, 20, first, "new")
		}
	}
}

func TestP8_4Wrong(t *testing.T) {
	for _, first := range []uint64{0, most + 1, most + 2, 1 << 49, 1 << 63, math.MaxUint64} {
		p := seven(t)
		checkErr(t, "Reset", p.do(t, resetAt(first)), api.ErrArg)
		checkLog(t, p.w, 4, 11, 4, 6, 8, 10)
	}
}

// A log that was reset goes on like any other.
func TestP8_4GoesOn(t *testing.T) {
	p := run(t, 1000, 20, resetAt(5), add("a"), add("b"), add("c"), resetAt(5), add("d"), cutAt(5), add("e"), add("f"), add("g"), trimAt(7), resetAt(1), add("h"), add("i"), openWith(20), add("j"))
	checkLog(t, p.w, 1, 4, 1, 3)
}

// Other files stay.
func TestP8_4Others(t *testing.T) {
	p := newPair(t, 1000)
	p.do(t, file("vote", "x"), file("snap-0000000000000001", "y"), openWith(20), add("a"), resetAt(7))
	checkFiles(t, p.d, files{"vote": "x", "snap-0000000000000001": "y", segment(7): ""})
}

// Where there are too many files for a mark nothing happens.
func TestP8_4Full(t *testing.T) {
	p := newPair(t, 1000)
	for i := range api.MaxFiles - 1 {
		p.do(t, file(fmt.Sprintf("f%d", i), ""))
	}
	p.do(t, openWith(20), add("a"))
	checkErr(t, "Reset", p.do(t, resetAt(9)), api.ErrFull)
	checkLog(t, p.w, 1, 2, 1)
	checkErr(t, "Append", p.do(t, add("b")), api.OK)
	checkErr(t, "Reset", p.do(t, removed("f0"), resetAt(9)), api.OK)
	checkLog(t, p.w, 9, 9, 9)
}

// The disk fails at each call: the log tells what it told before.
func TestP8_4Fails(t *testing.T) {
	for calls := range 10 {
		for lost := range 12 {
			p := seven(t)
			numbers := p.w.Segments()
			p.do(t, fuse(calls), resetAt(6))
			if calls < 8 {
				checkLog(t, p.w, 4, 11, numbers...)
			} else {
				checkLog(t, p.w, 6, 6, 6)
			}
			p.do(t, add("x"), resetAt(1), crash(lost-1, 5), openWith(20), add("y"), syncLog(), openWith(20))
		}
	}
}

// The order of a Reset's calls is told by what a crash leaves.
func TestP8_4Order(t *testing.T) {
	left := [][]string{
		{mark(6), segment(4), segment(6), segment(8), segment(10)},
		{mark(6), segment(4), segment(6), segment(8)},
		{mark(6), segment(4), segment(6)},
		{mark(6), segment(4)},
		{mark(6)},
		{segment(6)},
	}
	for calls, names := range left {
		p := seven(t)
		p.do(t, fuse(2+calls), resetAt(6), crash(99, 0))
		if got := p.d.Names(); !slices.Equal(got, names) {
			t.Errorf("%d calls: %q, not %q", 2+calls, got, names)
		}
	}
	p := seven(t)
	p.do(t, syncLog(), fuse(1), resetAt(6), crash(-1, 0))
	if slices.Contains(p.d.Names(), mark(6)) {
		t.Error("there is a mark that was not synced")
	}
}

func TestP8_4Segments(t *testing.T) {
	p := seven(t)
	for range 3 {
		numbers := p.w.Segments()
		numbers[0], numbers[3] = 77, 0
		_ = append(numbers[:1], 5)
		checkLog(t, p.w, 4, 11, 4, 6, 8, 10)
	}
	before := p.w.Segments()
	p.do(t, cutAt(5), add("x"), add("y"), trimAt(5), add("z"))
	if !slices.Equal(before, []uint64{4, 6, 8, 10}) {
		t.Errorf("what was told has become %d", before)
	}
}

// What is told does not hang on the disk: it may have failed.
func TestP8_4Failed(t *testing.T) {
	p := seven(t)
	p.do(t, fuse(0))
	checkLog(t, p.w, 4, 11, 4, 6, 8, 10)
	p.do(t, syncLog())
	checkLog(t, p.w, 4, 11, 4, 6, 8, 10)
}
