package vote_test

import (
	"testing"

	"codicil/api"
	"codicil/disk"
	"codicil/vote"
)

// loaded is the vote that a disk has.
func loaded(t *testing.T, d *disk.Disk) api.Vote {
	t.Helper()
	v, err := vote.Load(d)
	checkErr(t, "Load", err, api.OK)
	return v
}

// checkGoesOn has another vote saved on a disk, and remain.
func checkGoesOn(t *testing.T, d *disk.Disk) {
	t.Helper()
	v := api.Vote{Term: 1000, For: 9}
	checkSave(t, d, v, api.OK)
	checkErr(t, "Crash", d.Crash(-1, 0), api.OK)
	checkLoad(t, d, v, api.OK)
	checkFiles(t, d, files{"vote": frameOf(v)})
}

// rows of votes, of which each is saved behind the one ahead.
func rows() [][]api.Vote {
	return [][]api.Vote{
		{{Term: 1, For: 1}},
		{{}},
		{{Term: 3, For: 2}, {Term: 4, For: 1}},
		{{Term: 3, For: 2}, {Term: 3, For: 2}, {Term: 4}},
		{{Term: mostTerm, For: 64}, {}, {Term: 1}},
		{{Term: 247, For: 7}, {Term: 248}, {Term: 248, For: 8}, {Term: 1 << 40, For: 9}},
	}
}

// saveAll saves a row on a disk that fails behind so many calls, and tells the vote that was saved last, and the one that is being saved, if there is one (else the same). Over: all was saved.
func saveAll(t *testing.T, d *disk.Disk, row []api.Vote, fuse int) (last, next api.Vote, over bool) {
	t.Helper()
	d.Fuse(fuse)
	for _, v := range row {
		switch err := vote.Save(d, v); err {
		case api.OK:
			last = v
		case api.ErrDown:
			return last, v, false
		default:
			t.Fatalf("Save(%v): %d", v, err)
		}
	}
	return last, last, true
}

// The disk fails at each call, and a crash keeps any of what is loose.
func TestP9_3Crash(t *testing.T) {
	for _, row := range rows() {
		for fuse, over := 0, false; !over; fuse++ {
			d := newDisk(t, 100)
			_, _, over = saveAll(t, d, row, fuse)
			for _, r := range rests(d.Loose()) {
				d := newDisk(t, 100)
				last, next, _ := saveAll(t, d, row, fuse)
				d.Crash(r[0], r[1])
				if v := loaded(t, d); v != last && v != next {
					t.Errorf("%v, %d calls, %v: %v, not %v or %v", row, fuse, r, v, last, next)
				}
				checkGoesOn(t, d)
			}
		}
	}
}

// Another Save behind the crash fails, too, and then there is another crash.
func TestP9_3Again(t *testing.T) {
	row, more := []api.Vote{{Term: 3, For: 2}, {Term: 4, For: 1}}, api.Vote{Term: 300, For: 3}
	for fuse := range 9 {
		for _, r := range rests(2) {
			for again := range 6 {
				for _, then := range rests(2) {
					d := newDisk(t, 100)
					saveAll(t, d, row, fuse)
					d.Crash(r[0], r[1])
					first := loaded(t, d)
					last, next, over := saveAll(t, d, []api.Vote{more}, again)
					if !over {
						last = first
					}
					d.Crash(then[0], then[1])
					if v := loaded(t, d); v != last && v != next {
						t.Fatalf("%d calls, %v, %d calls, %v: %v, not %v or %v", fuse, r, again, then, v, last, next)
					}
				}
			}
		}
	}
}

// chance is a source of numbers that are the same each time.
type chance uint64

func (c *chance) below(n int) int {
	*c = *c*6364136223846793005 + 1442695040888963407
	return int(uint64(*c) >> 33 % uint64(n))
}

func (c *chance) vote() api.Vote {
	list := votes()
	return list[c.below(len(list))]
}

// step does something to both disks, and tells which votes there may be behind it.
func (c *chance) step(t *testing.T, d, model *disk.Disk, may []api.Vote) []api.Vote {
	t.Helper()
	switch c.below(8) {
	case 0:
		n := c.below(8) - 1
		d.Fuse(n)
		model.Fuse(n)
	case 1:
		calls, bytes := c.below(d.Loose()+2)-1, c.below(30)
		d.Crash(calls, bytes)
		model.Crash(calls, bytes)
		return []api.Vote{loaded(t, d)}
	case 2:
		name, data := []string{"a", "b", "c"}[c.below(3)], "1234567890"[:c.below(10)]
		checkErr(t, "Append", d.Append(name, data), model.Append(name, data))
	case 3:
		name := []string{"a", "b", "c"}[c.below(3)]
		checkErr(t, "Remove", d.Remove(name), model.Remove(name))
	default:
		v := c.vote()
		err := saved(model, v)
		checkSave(t, d, v, err)
		if err == api.OK {
			return []api.Vote{v}
		}
		return append(may, v)
	}
	return may
}

// Whatever is done beside it, the disk is as the chapter says, and there is a vote that may be.
func TestP9_3Mixed(t *testing.T) {
	for seed := range 3000 {
		c := chance(seed)
		room := 30 + c.below(60)
		d, model := newDisk(t, room), newDisk(t, room)
		may := []api.Vote{{}}
		for range 60 {
			may = c.step(t, d, model, may)
			checkSame(t, d, model)
			v, err := vote.Load(d)
			if err != api.ErrDown && (err != api.OK || !isAmong(v, may)) || t.Failed() {
				t.Fatalf("seed %d: Load %v, %d; it may be %v", seed, v, err, may)
			}
		}
	}
}

func isAmong(v api.Vote, list []api.Vote) bool {
	for _, w := range list {
		if v == w {
			return true
		}
	}
	return false
}

// Each byte of what was saved is altered in each way: Load tells it, and leaves all as it was.
func TestP9_3Altered(t *testing.T) {
	for _, v := range votes() {
		d := newDisk(t, 100)
		checkSave(t, d, v, api.OK)
		for at := range frameOf(v) {
			for by := 1; by < 256; by++ {
				checkErr(t, "Alter", d.Alter("vote", at, byte(by)), api.OK)
				if w, err := vote.Load(d); w != (api.Vote{}) || err != api.ErrBad {
					t.Fatalf("%v, byte %d by %d: %v, %d", v, at, by, w, err)
				}
				checkErr(t, "Alter", d.Alter("vote", at, byte(by)), api.OK)
			}
		}
		checkLoad(t, d, v, api.OK)
		d.Alter("vote", 9, 1)
		checkSave(t, d, api.Vote{Term: 6, For: 6}, api.OK)
		checkLoad(t, d, api.Vote{Term: 6, For: 6}, api.OK)
	}
}

// A vote that was altered stays so while a Save does not end, and a temporary file that was altered is not the vote.
func TestP9_3AlteredAndDown(t *testing.T) {
	for fuse := range 4 {
		for calls := -1; calls < 2; calls++ {
			d := diskOf(t, 100, files{"vote": frameOf(api.Vote{Term: 3, For: 2})})
			d.Alter("vote", 8, 1)
			d.Fuse(fuse)
			checkSave(t, d, api.Vote{Term: 4, For: 1}, api.ErrDown)
			d.Crash(calls, 9)
			want, err := api.Vote{}, api.ErrBad
			if fuse == 3 && calls == 1 {
				want, err = api.Vote{Term: 4, For: 1}, api.OK
			}
			checkLoad(t, d, want, err)
			checkGoesOn(t, d)
		}
	}
	d := diskOf(t, 100, files{"vote": frameOf(api.Vote{Term: 3, For: 2})})
	d.Fuse(2)
	checkSave(t, d, api.Vote{Term: 4, For: 1}, api.ErrDown)
	d.Crash(0, 0)
	checkErr(t, "Alter", d.Alter("vote.new", 8, 1), api.OK)
	checkLoad(t, d, api.Vote{Term: 3, For: 2}, api.OK)
	checkGoesOn(t, d)
}

func TestP9_3Examples(t *testing.T) {
	d := newDisk(t, 100)
	checkLoad(t, d, api.Vote{}, api.OK)
	checkSave(t, d, api.Vote{Term: 3, For: 2}, api.OK)
	d.Fuse(2)
	checkSave(t, d, api.Vote{Term: 4, For: 1}, api.ErrDown)
	checkLoad(t, d, api.Vote{}, api.ErrDown)
	d.Crash(9, 9)
	checkLoad(t, d, api.Vote{Term: 3, For: 2}, api.OK)
}

// Votes one behind another take no more room.
func TestP9_3Long(t *testing.T) {
	d := newDisk(t, 100)
	for term := range uint64(20000) {
		v := api.Vote{Term: term + 1, For: int(term % 65)}
		if err := vote.Save(d, v); err != api.OK || loaded(t, d) != v {
			t.Fatalf("%v: %d", v, err)
		}
	}
	checkGoesOn(t, d)
	if d.Left() != 100-len(frameOf(api.Vote{Term: 1000, For: 9})) {
		t.Errorf("%d bytes are left", d.Left())
	}
}
