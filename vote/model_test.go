package vote_test

import (
	"encoding/binary"
	"hash/crc32"
	"maps"
	"slices"
	"strconv"
	"testing"

	"codicil/api"
	"codicil/disk"
	"codicil/vote"
)

const mostTerm = 1 << 48 // MaxTerm

// framed is layer 7's definition of a frame.
func framed(text string) string {
	length := binary.BigEndian.AppendUint32(nil, uint32(len(text)))
	head := binary.LittleEndian.AppendUint32(length, crc32.ChecksumIEEE(length))
	return string(head) + text + string(binary.LittleEndian.AppendUint32(nil, crc32.ChecksumIEEE([]byte(text))))
}

// number is layer 5's definition of a number's bytes.
func number(x uint64) string {
	if x < 248 {
		return string([]byte{byte(x)})
	}
	b := binary.BigEndian.AppendUint64(nil, x)
	for b[0] == 0 {
		b = b[1:]
	}
	return string(append([]byte{byte(247 + len(b))}, b...))
}

// frameOf is the chapter's definition of a vote's file.
func frameOf(v api.Vote) string { return framed(number(v.Term) + number(uint64(v.For))) }

// isVote is the chapter's definition of a valid vote.
func isVote(v api.Vote) bool {
	return v.Term <= mostTerm && v.For >= 0 && v.For <= 64 && (v.For == 0 || v.Term != 0)
}

func votes() (list []api.Vote) {
	for _, term := range []uint64{1, 2, 3, 246, 247, 248, 249, 255, 256, 257, 65535, 65536, 1<<24 - 1, 1 << 24, 1<<32 - 1, 1 << 32, 1<<40 - 1, 1 << 40, mostTerm - 1, mostTerm} {
		for _, who := range []int{0, 1, 2, 7, 8, 63, 64} {
			list = append(list, api.Vote{Term: term, For: who})
		}
	}
	return append(list, api.Vote{})
}

// saved has the chapter's calls of Save done on a disk, up to the first error.
func saved(d *disk.Disk, v api.Vote) api.Errno {
	if slices.Contains(d.Names(), "vote.new") {
		if err := d.Remove("vote.new"); err != api.OK {
			return err
		}
	}
	if err := d.Append("vote.new", frameOf(v)); err != api.OK {
		return err
	}
	if err := d.Sync(); err != api.OK {
		return err
	}
	if err := d.Rename("vote.new", "vote"); err != api.OK {
		return err
	}
	return d.Sync()
}

type files map[string]string

// contents is what a disk has.
func contents(t *testing.T, d *disk.Disk) files {
	t.Helper()
	all := files{}
	for _, name := range d.Names() {
		data, err := d.Read(name)
		checkErr(t, "Read", err, api.OK)
		all[name] = data
	}
	return all
}

func newDisk(t *testing.T, room int) *disk.Disk {
	t.Helper()
	d, err := disk.New(room)
	checkErr(t, "disk.New", err, api.OK)
	return d
}

// put has files appended to a disk, in order, and not synced.
func put(t *testing.T, d *disk.Disk, has files) {
	t.Helper()
	for _, name := range slices.Sorted(maps.Keys(has)) {
		checkErr(t, "Append", d.Append(name, has[name]), api.OK)
	}
}

// diskOf has files, synced.
func diskOf(t *testing.T, room int, has files) *disk.Disk {
	t.Helper()
	d := newDisk(t, room)
	put(t, d, has)
	checkErr(t, "Sync", d.Sync(), api.OK)
	return d
}

// crowd has so many files, beside others.
func crowd(n int, others files) files {
	has := maps.Clone(others)
	for i := len(has); i < n; i++ {
		has["f"+strconv.Itoa(i)] = ""
	}
	return has
}

func checkErr(t *testing.T, name string, err, want api.Errno) {
	t.Helper()
	if err != want {
		t.Errorf("%s: %d, not %d", name, err, want)
	}
}

func checkFiles(t *testing.T, d *disk.Disk, want files) {
	t.Helper()
	if has := contents(t, d); !maps.Equal(has, want) {
		t.Errorf("there are %q, not %q", has, want)
	}
}

// checkLoad holds Load to its answer, and to changing nothing.
func checkLoad(t *testing.T, d *disk.Disk, want api.Vote, fault api.Errno) {
	t.Helper()
	loose, left, names := d.Loose(), d.Left(), d.Names()
	for range 2 {
		if v, err := vote.Load(d); v != want || err != fault {
			t.Errorf("Load: %v, %d, not %v, %d", v, err, want, fault)
		}
	}
	if d.Loose() != loose || d.Left() != left || !slices.Equal(d.Names(), names) {
		t.Errorf("Load leaves %d loose, %d left, %q", d.Loose(), d.Left(), d.Names())
	}
}

func checkSave(t *testing.T, d *disk.Disk, v api.Vote, want api.Errno) {
	t.Helper()
	if err := vote.Save(d, v); err != want {
		t.Errorf("Save(%v): %d, not %d", v, err, want)
	}
}

// calls tells how many more calls a disk performs: none is left then.
func calls(d *disk.Disk) (n int) {
	for n < 100 && d.Sync() == api.OK {
		n++
	}
	return n
}

// checkSame holds a disk to having what another one has, loose or not, as far as both may be asked.
func checkSame(t *testing.T, d, model *disk.Disk) {
	t.Helper()
	if d.Loose() != model.Loose() || d.Left() != model.Left() || !slices.Equal(d.Names(), model.Names()) {
		t.Errorf("%d loose, %d left, %q; not %d, %d, %q", d.Loose(), d.Left(), d.Names(), model.Loose(), model.Left(), model.Names())
	}
	for _, name := range model.Names() {
		data, err := d.Read(name)
		want, fault := model.Read(name)
		if data != want || err != fault {
			t.Errorf("%s: %q, %d; not %q, %d", name, data, err, want, fault)
		}
	}
}
