package wal_test

import (
	"maps"
	"slices"
	"strings"
	"testing"

	"codicil/api"
	"codicil/disk"
	"codicil/wal"
)

// known is what a client of a log knows of it: what is there for good, and what it appended since.
type known struct {
	first uint64
	sure  []string
	loose []string
}

func (k known) all() []string { return slices.Concat(k.sure, k.loose) }
func (k known) next() uint64  { return k.first + uint64(len(k.sure)+len(k.loose)) }

// found is what Open finds.
type found struct {
	first   uint64
	records []string
}

func (f found) next() uint64 { return f.first + uint64(len(f.records)) }

// done is what is known once an op is done; first is what the log tells then.
func (k known) done(o op, first uint64) known {
	switch o.what {
	case "append":
		return known{k.first, k.sure, append(slices.Clone(k.loose), o.text)}
	case "cut":
		return known{k.first, k.all()[:o.n-k.first], nil}
	case "trim":
		if first == k.first {
			return k
		}
		return known{first, k.all()[first-k.first:], nil}
	case "reset":
		return known{o.n, nil, nil}
	}
	return known{k.first, k.all(), nil}
}

// may tells whether Open may find f behind a crash, at a time when nothing is in progress.
func (k known) may(f found) bool {
	all := k.all()
	return f.first == k.first && len(f.records) >= len(k.sure) && len(f.records) <= len(all) && slices.Equal(f.records, all[:len(f.records)])
}

// mayAmid tells whether Open may find f behind a crash while the op was in progress.
func (k known) mayAmid(o op, f found) bool {
	switch o.what {
	case "append":
		return k.done(o, k.first).may(f)
	case "cut":
		least := min(len(k.sure), int(o.n-k.first))
		return k.may(f) || len(f.records) >= least && known{k.first, nil, k.all()}.may(f)
	case "trim":
		if f.first < k.first || f.first > k.next() {
			return false
		}
		return k.may(f) || f.first <= o.n && slices.Equal(f.records, k.all()[f.first-k.first:])
	case "reset":
		return k.may(f) || f.first == o.n && len(f.records) == 0
	}
	return k.may(f)
}

// rule tells whether Open may find f.
type rule func(f found) bool

// story performs ops on a new log, whose disk fails behind so many calls, and tells what Open may find then. Over: all was done.
func story(t *testing.T, size, calls int, ops []op) (d *disk.Disk, may rule, over bool) {
	t.Helper()
	d = newDisk(t, 10000)
	w := checkOpen(t, d, size, 1)
	d.Fuse(calls)
	k := known{first: 1}
	for _, o := range ops {
		err, _ := o.onLog(w)
		if err == api.ErrDown {
			return d, func(f found) bool { return k.mayAmid(o, f) }, false
		}
		if err != api.OK {
			t.Fatalf("%v: %d", o, err)
		}
		k = k.done(o, w.First())
	}
	return d, k.may, true
}

// opened is what Open finds on a disk.
func opened(t *testing.T, d *disk.Disk, size int) (*wal.Wal, found) {
	t.Helper()
	w, kept, err := wal.Open(d, size)
	if err != api.OK {
		t.Fatalf("Open: %d", err)
	}
	f := found{kept.First, kept.Records}
	if w.First() != f.first || w.Next() != f.next() {
		t.Fatalf("behind Open: First %d, Next %d, not %v", w.First(), w.Next(), f)
	}
	return w, f
}

// checkGoesOn has a log that was found go on, and be found so.
func checkGoesOn(t *testing.T, d *disk.Disk, w *wal.Wal, f found, size int) {
	t.Helper()
	if f.next() == most {
		checkErr(t, "Append", w.Append("more"), api.ErrOver)
		return
	}
	checkErr(t, "Append", w.Append("more"), api.OK)
	checkErr(t, "Sync", w.Sync(), api.OK)
	w.Append("lost")
	checkErr(t, "Crash", d.Crash(-1, 0), api.OK)
	checkOpen(t, d, size, f.first, append(slices.Clone(f.records), "more")...)
}

// rests has what a crash may keep of a story: so many calls, and bytes of the next one.
func rests(loose int) (list [][2]int) {
	for calls := -1; calls <= loose; calls++ {
		for _, bytes := range []int{0, 1, 4, 7, 8, 12, 13, 20} {
			list = append(list, [2]int{calls, bytes})
		}
	}
	return list
}

// checkStory has the disk fail at each call of the story, and then crash in each way.
func checkStory(t *testing.T, size int, ops ...op) {
	t.Helper()
	for calls := 0; ; calls++ {
		d, may, over := story(t, size, calls, ops)
		for _, r := range rests(d.Loose()) {
			d, may, _ = story(t, size, calls, ops)
			d.Crash(r[0], r[1])
			w, f := opened(t, d, size)
			if !may(f) {
				t.Fatalf("%v, of which %d calls were done, and Crash(%d, %d): Open finds %d, %.20q", ops, calls, r[0], r[1], f.first, f.records)
			}
			checkGoesOn(t, d, w, f, size)
		}
		if over {
			return
		}
	}
}

// stories has those of the chapter, and what else a log goes through.
func stories() [][]op {
	a, b, c, d, e := add("a"), add("bc"), add(""), add("def"), add("the fifth one")
	return [][]op{
		{a, syncLog(), b},
		{a, b, c, cutAt(2)},
		{a, b, resetAt(9)},
		{a, b, c, d, e, syncLog()},
		{a, b, c, syncLog(), d, e, cutAt(1)},
		{a, b, c, syncLog(), d, e, cutAt(3), e, d, c, syncLog()},
		{a, b, c, syncLog(), d, e, cutAt(5), a, b, cutAt(4), a},
		{a, b, c, syncLog(), d, e, cutAt(6), a},
		{a, b, c, syncLog(), d, e, trimAt(3), a, b},
		{a, b, c, d, e, trimAt(6), a, b, trimAt(7), cutAt(7), e},
		{a, b, c, syncLog(), d, e, trimAt(1), a, trimAt(0)},
		{a, b, c, syncLog(), d, e, resetAt(1), a, b},
		{a, b, c, syncLog(), d, e, resetAt(3), a, b, c, resetAt(3), d},
		{a, b, c, d, e, resetAt(4), resetAt(4), resetAt(5)},
		{resetAt(2), a, b, c, syncLog(), resetAt(2), a},
		{resetAt(most), resetAt(most - 1), a, resetAt(1), a},
	}
}

func TestP8_5Stories(t *testing.T) {
	for _, size := range []int{1, 13, 20, 30, 1000} {
		for _, ops := range stories() {
			checkStory(t, size, ops...)
		}
	}
}

// A crash at each call of the Open that follows a crash changes nothing of what may be found.
func TestP8_5Again(t *testing.T) {
	for _, ops := range stories() {
		for calls := range 30 {
			d, _, over := story(t, 20, calls, ops)
			for kept := -1; kept <= d.Loose(); kept++ {
				for more := range 8 {
					for then := range 4 {
						d, may, _ := story(t, 20, calls, ops)
						d.Crash(kept, 5)
						d.Fuse(more)
						_, _, err := wal.Open(d, 20)
						d.Crash(then-1, 0)
						w, f := opened(t, d, 20)
						if err != api.OK && err != api.ErrDown || !may(f) {
							t.Fatalf("%v, %d calls, Crash(%d, 5), Open %d: %d, Crash(%d, 0): Open finds %d, %.20q", ops, calls, kept, more, err, then-1, f.first, f.records)
						}
						if more == then {
							checkGoesOn(t, d, w, f, 20)
						}
					}
				}
			}
			if over {
				break
			}
		}
	}
}

// chance is a source of numbers that are the same each time.
type chance uint64

func (c *chance) below(n int) int {
	*c = *c*6364136223846793005 + 1442695040888963407
	return int(uint64(*c) >> 33 % uint64(n))
}

// number is one about those that a log has.
func (c *chance) number(first, next uint64) uint64 {
	switch c.below(30) {
	case 0:
		return 0
	case 1:
		return most - uint64(c.below(4))
	case 2:
		return most + 1
	}
	return first - 1 + uint64(c.below(int(next-first)+3))
}

// ops has what is done to a log, of which first and next are known.
func (c *chance) op(first, next uint64) op {
	switch c.below(12) {
	case 0:
		return syncLog()
	case 1:
		return cutAt(c.number(first, next))
	case 2:
		return trimAt(c.number(first, next))
	case 3:
		if c.below(3) == 0 {
			return resetAt(c.number(first, next))
		}
	}
	return add(strings.Repeat(string(rune('a'+c.below(26))), c.below(25)))
}

// Any ops, of which the disk fails at some call.
func TestP8_5Mixed(t *testing.T) {
	for seed := range 20000 {
		c := chance(seed)
		size := []int{1, 20, 40, 100}[c.below(4)]
		d := newDisk(t, 10000)
		w := checkOpen(t, d, size, 1)
		k := known{first: 1}
		may := k.may
		d.Fuse(c.below(60))
		for range 40 {
			o := c.op(w.First(), w.Next())
			err, _ := o.onLog(w)
			if before := k; err == api.ErrDown {
				may = func(f found) bool { return before.mayAmid(o, f) }
				break
			}
			if err == api.OK {
				k = k.done(o, w.First())
			}
			may = k.may
		}
		kept, bytes := c.below(d.Loose()+2)-1, c.below(30)
		d.Crash(kept, bytes)
		w, f := opened(t, d, size)
		if !may(f) {
			t.Fatalf("seed %d, Crash(%d, %d): Open finds %d, %.20q", seed, kept, bytes, f.first, f.records)
		}
		checkGoesOn(t, d, w, f, size)
	}
}

// step is something that is done to a pair: mostly to its log.
func (c *chance) step(p *pair) []op {
	sizes := []int{1, 13, 20, 40, 100, 0}
	switch c.below(30) {
	case 0:
		return []op{fuse(c.below(20) - 1)}
	case 1, 2:
		return []op{crash(c.below(p.d.Loose()+3)-1, c.below(30)), openWith(sizes[c.below(len(sizes))])}
	case 3:
		return []op{openWith(sizes[c.below(len(sizes))])}
	case 4:
		return []op{file([]string{"vote", mark(uint64(c.below(4)) + 1), "x"}[c.below(3)], "z"[:c.below(2)])}
	case 5:
		return []op{removed([]string{"vote", "x"}[c.below(2)])}
	case 6:
		if names := p.d.Names(); len(names) > 0 && c.below(8) == 0 {
			return []op{alter(names[c.below(len(names))], c.below(20))}
		}
	}
	if p.w == nil {
		return []op{openWith(20)}
	}
	return []op{c.op(p.w.First(), p.w.Next())}
}

// Whatever is done, the log and its disk are as the chapter says.
func TestP8_5Model(t *testing.T) {
	for seed := range 3000 {
		c := chance(seed)
		p := newPair(t, c.below(400))
		for range 80 {
			p.do(t, c.step(p)...)
			if t.Failed() {
				t.Fatalf("seed %d", seed)
			}
		}
	}
}

// logs are disks that have logs of all kinds, all synced.
func logs(t *testing.T) []*disk.Disk {
	t.Helper()
	var all []*disk.Disk
	for _, ops := range append(stories(), []op{resetAt(300), add(mixed(200, 1)), add(mixed(70, 2)), add(""), add(mixed(3, 3))}) {
		for _, size := range []int{1, 20, 1000} {
			d, _, _ := story(t, size, -1, append(ops, syncLog()))
			all = append(all, d)
		}
	}
	return all
}

// contents is what a disk has.
func contents(t *testing.T, d *disk.Disk) files {
	t.Helper()
	all := files{}
	for _, name := range d.Names() {
		data, err := d.Read(name)
		checkErr(t, "Read", err, api.OK)
		all[name] = data
	}
	return all
}

// Each byte of what was synced is altered in each bit, and in others: Open tells it, and leaves all as it was.
func TestP8_5Altered(t *testing.T) {
	for _, d := range logs(t) {
		_, before := opened(t, d, 20)
		for name, data := range contents(t, d) {
			for at := range data {
				for _, by := range []byte{1, 2, 4, 8, 16, 32, 64, 128, 255, data[at], ^data[at], data[at] ^ 12} {
					if by == 0 {
						continue
					}
					checkErr(t, "Alter", d.Alter(name, at, by), api.OK)
					altered := contents(t, d)
					checkRefused(t, d, 20, api.ErrBad)
					if t.Failed() || !maps.Equal(contents(t, d), altered) {
						t.Fatalf("%s, byte %d by %d: %q", name, at, by, data)
					}
					checkErr(t, "Alter", d.Alter(name, at, by), api.OK)
				}
			}
		}
		if _, f := opened(t, d, 20); f.first != before.first || !slices.Equal(f.records, before.records) {
			t.Errorf("altered and altered back: %v, not %v", f, before)
		}
	}
}

// What was synced is told to be altered also where something torn stands behind it.
func TestP8_5AlteredAndTorn(t *testing.T) {
	synced := framedAll("a", "bcd", "")
	for torn := 1; torn < 17; torn++ {
		d := newDisk(t, 1000)
		w := checkOpen(t, d, 1000, 1)
		for _, record := range []string{"a", "bcd", ""} {
			w.Append(record)
		}
		w.Sync()
		w.Append("torn!")
		d.Crash(0, torn)
		for at := range len(synced) {
			for bit := range 8 {
				d.Alter(segment(1), at, 1<<bit)
				checkRefused(t, d, 1000, api.ErrBad)
				d.Alter(segment(1), at, 1<<bit)
			}
		}
		checkOpen(t, d, 1000, 1, "a", "bcd", "")
	}
}

func TestP8_5Examples(t *testing.T) {
	d := run(t, 100, 20, add("a"), syncLog(), add("b"), crash(-1, 0)).d
	checkOpen(t, d, 20, 1, "a")
	d = run(t, 100, 20, add("a"), add("b"), add("c"), cutAt(2)).d
	checkOpen(t, d, 20, 1, "a")
	d = run(t, 100, 20, add("a"), add("b"), resetAt(9)).d
	checkOpen(t, d, 20, 9)
}

// A log of many records that go as others come takes no more room, and no time that grows with what has been.
func TestP8_5Long(t *testing.T) {
	d := newDisk(t, 1<<20)
	w := checkOpen(t, d, 1<<14, 1)
	record := mixed(50, 1)
	for i := range 100000 {
		if err := w.Append(record); err != api.OK {
			t.Fatalf("record %d: %d", i, err)
		}
		if i%100 == 99 {
			checkErr(t, "Sync", w.Sync(), api.OK)
			checkErr(t, "Trim", w.Trim(w.Next()-min(500, w.Next())), api.OK)
		}
	}
	w, f := opened(t, d, 1<<14)
	if f.next() != 100001 || len(f.records) < 500 || len(f.records) > 1000 || len(w.Segments()) > 5 {
		t.Errorf("%d records from %d on, in segments %d", len(f.records), f.first, w.Segments())
	}
}
