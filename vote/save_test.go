package vote_test

import (
	"maps"
	"math"
	"testing"

	"codicil/api"
	"codicil/disk"
	"codicil/vote"
)

// wrongVotes has each bound's neighbours, and what is far beyond.
func wrongVotes() (list []api.Vote) {
	for _, term := range []uint64{mostTerm + 1, mostTerm + 2, 1 << 49, 1 << 63, math.MaxUint64} {
		for _, who := range []int{0, 1, 64} {
			list = append(list, api.Vote{Term: term, For: who})
		}
	}
	for _, term := range []uint64{0, 1, 7, mostTerm, mostTerm + 1} {
		for _, who := range []int{-1, -2, -64, 65, 66, 128, 256, 257, 1 << 32, 1<<32 + 1, math.MinInt, math.MaxInt} {
			list = append(list, api.Vote{Term: term, For: who})
		}
	}
	for _, who := range []int{1, 2, 7, 63, 64} {
		list = append(list, api.Vote{For: who})
	}
	return list
}

func TestP9_1Nil(t *testing.T) {
	for _, d := range []*disk.Disk{nil, {}, new(disk.Disk)} {
		for _, v := range append(votes(), wrongVotes()...) {
			checkSave(t, d, v, api.ErrNil)
		}
	}
}

// A vote that is none is refused, also by a disk that has failed, and no call is spent.
func TestP9_1Arg(t *testing.T) {
	for _, v := range wrongVotes() {
		for _, has := range []files{{}, {"vote": frameOf(api.Vote{Term: 3, For: 2})}, {"vote.new": "x"}, {"vote": "y", "vote.new": ""}} {
			d := diskOf(t, 100, has)
			d.Fuse(5)
			checkSave(t, d, v, api.ErrArg)
			if d.Loose() != 0 {
				t.Errorf("Save(%v) leaves %d calls loose", v, d.Loose())
			}
			checkFiles(t, d, has)
			if n := calls(d); n != 5 {
				t.Errorf("Save(%v) leaves %d calls of 5", v, n)
			}
			checkSave(t, d, v, api.ErrArg)
		}
	}
}

func TestP9_1Valid(t *testing.T) {
	for _, v := range votes() {
		for _, has := range []files{{}, {"vote": "x"}, {"vote.new": "xy"}, {"vote": "x", "vote.new": frameOf(v), "wal-0000000000000001": "z", "vot": "", "vote.": "v", "vote.new.": "w", "vote.ne": ""}} {
			d := diskOf(t, 100, has)
			checkSave(t, d, v, api.OK)
			want := maps.Clone(has)
			delete(want, "vote.new")
			want["vote"] = frameOf(v)
			checkFiles(t, d, want)
			checkErr(t, "Crash", d.Crash(-1, 0), api.OK)
			checkFiles(t, d, want)
		}
	}
}

// The bytes as they stand, no definition between.
func TestP9_1Bytes(t *testing.T) {
	for v, want := range map[api.Vote]string{
		{}:                         "\x00\x00\x00\x02\x30\xbe\x4a\xcf\x00\x00\xff\x12\xd9\x41",
		{Term: 3, For: 2}:          "\x00\x00\x00\x02\x30\xbe\x4a\xcf\x03\x02\x10\x20\xfa\x84",
		{Term: 248, For: 64}:       "\x00\x00\x00\x03\xa6\x8e\x4d\xb8\xf8\xf8\x40\x5f\xd1\x2f\xee",
		{Term: mostTerm, For: 0}:   "\x00\x00\x00\x09\xb8\x67\x98\x58\xfe\x01\x00\x00\x00\x00\x00\x00\x00\x38\x0c\x97\x74",
		{Term: mostTerm, For: 64}:  "\x00\x00\x00\x09\xb8\x67\x98\x58\xfe\x01\x00\x00\x00\x00\x00\x00\x40\xa8\x4d\x4b\x02",
		{Term: mostTerm - 1}:       "\x00\x00\x00\x08\x2e\x57\x9f\x2f\xfd\xff\xff\xff\xff\xff\xff\x00\xec\x37\x63\x4e",
		{Term: 1<<32 - 1, For: 10}: "\x00\x00\x00\x06\x29\x7a\x27\xc8\xfb\xff\xff\xff\xff\x0a\x85\xa9\x9f\x17",
	} {
		d := newDisk(t, 100)
		checkSave(t, d, v, api.OK)
		data, _ := d.Read("vote")
		if data != want {
			t.Errorf("%v: %q, not %q", v, data, want)
		}
	}
}

// priors have disks as they may be ahead of a Save.
func priors() map[string]func(t *testing.T) *disk.Disk {
	old := frameOf(api.Vote{Term: 3, For: 2})
	synced := func(room int, has files) func(t *testing.T) *disk.Disk {
		return func(t *testing.T) *disk.Disk { return diskOf(t, room, has) }
	}
	loose := func(has, more files) func(t *testing.T) *disk.Disk {
		return func(t *testing.T) *disk.Disk {
			d := diskOf(t, 200, has)
			put(t, d, more)
			return d
		}
	}
	return map[string]func(t *testing.T) *disk.Disk{
		"empty":                        synced(200, files{}),
		"with a vote":                  synced(200, files{"vote": old, "x": "y"}),
		"with a wrong vote":            synced(200, files{"vote": "no", "vote-": "z"}),
		"with a rest":                  synced(200, files{"vote.new": old[:5]}),
		"with a vote and a rest":       synced(200, files{"vote": old, "vote.new": "rest"}),
		"with a vote and an empty one": synced(200, files{"vote": old, "vote.new": ""}),
		"with loose calls":             loose(files{"vote": old}, files{"a": "b", "wal-0000000000000001": "cd"}),
		"with a loose rest":            loose(files{"vote": old}, files{"a": "b", "vote.new": old, "z": "end"}),
		"with a rest that grows":       loose(files{"vote": old, "vote.new": "12"}, files{"vote.new": "34"}),
		"with no room":                 synced(0, files{}),
		"with too little room":         synced(27, files{"vote": old}),
		"with room for a small vote":   synced(28, files{"vote": old}),
		"with room behind a rest":      synced(30, files{"vote": old, "vote.new": "0123456789abcdef"}),
		"without, even behind a rest":  synced(20, files{"vote": old, "vote.new": "012345"}),
		"with many files":              synced(200, crowd(63, files{"vote": old})),
		"with all files":               synced(200, crowd(64, files{"vote": old})),
		"with all files and a rest":    synced(200, crowd(64, files{"vote": old, "vote.new": "x"})),
	}
}

// Save does the chapter's calls, whichever the disk fails at, in their order and no more: what a crash may leave is the same.
func TestP9_1Calls(t *testing.T) {
	for name, prior := range priors() {
		for _, v := range []api.Vote{{}, {Term: 4, For: 1}, {Term: mostTerm, For: 64}} {
			for fuse := -1; fuse < 8; fuse++ {
				checkCalls(t, name, prior, v, fuse)
			}
		}
	}
}

// both has Save done on a disk, and the chapter's calls on another.
func both(t *testing.T, prior func(t *testing.T) *disk.Disk, v api.Vote, fuse int) (d, model *disk.Disk) {
	t.Helper()
	d, model = prior(t), prior(t)
	d.Fuse(fuse)
	model.Fuse(fuse)
	checkSave(t, d, v, saved(model, v))
	checkSame(t, d, model)
	return d, model
}

func checkCalls(t *testing.T, name string, prior func(t *testing.T) *disk.Disk, v api.Vote, fuse int) {
	t.Helper()
	d, model := both(t, prior, v, fuse)
	for _, r := range rests(d.Loose()) {
		d, model := both(t, prior, v, fuse)
		d.Crash(r[0], r[1])
		model.Crash(r[0], r[1])
		checkSame(t, d, model)
	}
	if left, want := calls(d), calls(model); left != want {
		t.Errorf("%d calls are left, not %d", left, want)
	}
	if t.Failed() {
		t.Fatalf("%s, Save(%v) with %d calls", name, v, fuse)
	}
}

// rests has what a crash may keep: so many calls, and bytes of the next one.
func rests(loose int) (list [][2]int) {
	for calls := -1; calls <= loose+1; calls++ {
		for _, bytes := range []int{0, 1, 4, 8, 9, 13, 14, 30} {
			list = append(list, [2]int{calls, bytes})
		}
	}
	return list
}

// How many calls a Save takes: one more if there is a rest.
func TestP9_1Count(t *testing.T) {
	for _, has := range []files{{}, {"vote": "x"}, {"vote.new": ""}, {"vote.new": "x", "vote": "y"}} {
		need := 4
		if _, rest := has["vote.new"]; rest {
			need = 5
		}
		for fuse := range 10 {
			d := diskOf(t, 100, has)
			d.Fuse(fuse)
			want := api.OK
			if fuse < need {
				want = api.ErrDown
			}
			checkSave(t, d, api.Vote{Term: 4, For: 1}, want)
			if n := calls(d); n != max(fuse-need, 0) {
				t.Errorf("%q: %d calls of %d are left", has, n, fuse)
			}
		}
	}
}

// Where there is no room nothing becomes the vote; what was removed is not durable yet.
func TestP9_1Full(t *testing.T) {
	old, v := frameOf(api.Vote{Term: 3, For: 2}), api.Vote{Term: mostTerm, For: 64}
	d := diskOf(t, len(old)+len(frameOf(v))-1, files{"vote": old, "vote.new": "x"})
	checkSave(t, d, v, api.ErrFull)
	checkFiles(t, d, files{"vote": old})
	checkLoad(t, d, api.Vote{Term: 3, For: 2}, api.OK)
	d.Crash(0, 0)
	checkFiles(t, d, files{"vote": old, "vote.new": "x"})
	checkSave(t, d, api.Vote{Term: 4, For: 1}, api.OK)
	checkFiles(t, d, files{"vote": frameOf(api.Vote{Term: 4, For: 1})})
	full := crowd(64, files{"vote": old})
	d = diskOf(t, 100, full)
	checkSave(t, d, v, api.ErrFull)
	checkFiles(t, d, full)
	d.Remove("f1")
	checkSave(t, d, v, api.OK)
	checkLoad(t, d, v, api.OK)
}

func TestP9_1Down(t *testing.T) {
	for _, has := range []files{{}, {"vote": "x"}, {"vote.new": ""}, {"vote": "", "vote.new": "y"}} {
		d := diskOf(t, 100, has)
		d.Fuse(0)
		for _, v := range votes() {
			checkSave(t, d, v, api.ErrDown)
		}
		d.Crash(9, 9)
		checkFiles(t, d, has)
	}
}

// Two disks have a vote each, and the vote that is handed in stays as it is.
func TestP9_1Apart(t *testing.T) {
	d, other := newDisk(t, 100), newDisk(t, 100)
	v := api.Vote{Term: 9, For: 5}
	checkErr(t, "Save", vote.Save(d, v), api.OK)
	checkErr(t, "Save", vote.Save(other, api.Vote{Term: 8, For: 4}), api.OK)
	checkLoad(t, d, v, api.OK)
	checkLoad(t, other, api.Vote{Term: 8, For: 4}, api.OK)
}
