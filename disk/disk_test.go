package disk_test

import (
	"math"
	"slices"
	"strconv"
	"strings"
	"testing"

	"codicil/api"
	"codicil/disk"
)

// made is a disk on which the calls were performed.
func made(t *testing.T, room int, calls ...call) *disk.Disk {
	t.Helper()
	d, err := disk.New(room)
	if err != api.OK {
		t.Fatalf("New(%d): %d", room, err)
	}
	for _, c := range calls {
		if err := c.on(d); err != api.OK {
			t.Fatalf("%.80v: %d", c, err)
		}
	}
	return d
}

// unmade has the disks that New did not make.
func unmade() []*disk.Disk {
	return []*disk.Disk{nil, {}, new(disk.Disk)}
}

// checkErr has the disk perform a call, which must be answered so.
func checkErr(t *testing.T, d *disk.Disk, c call, want api.Errno) {
	t.Helper()
	if err := c.on(d); err != want {
		t.Errorf("%.80v: %d, not %d", c, err, want)
	}
}

// checkCounts holds what a disk tells in numbers.
func checkCounts(t *testing.T, d *disk.Disk, left, loose int) {
	t.Helper()
	if d.Left() != left || d.Loose() != loose {
		t.Errorf("%d left, %d loose, not %d and %d", d.Left(), d.Loose(), left, loose)
	}
}

// hundred is a room of 100 bytes, with the files a: xy and b: z, which are synced.
func hundred(t *testing.T) *disk.Disk {
	t.Helper()
	return made(t, 100, app("a", "xy"), app("b", "z"), syncAll())
}

type texts = map[string]string

func TestP6_1New(t *testing.T) {
	for _, room := range []int{0, 1, 2, 100, 65536, api.MaxRoom - 1, api.MaxRoom} {
		d, err := disk.New(room)
		if d == nil || err != api.OK {
			t.Fatalf("New(%d): %v, %d", room, d, err)
		}
		checkFiles(t, d, nil, "a", "")
		checkCounts(t, d, room, 0)
	}
	for _, room := range []int{math.MinInt, -1 << 32, -100, -1, api.MaxRoom + 1, 1 << 32, 1<<32 + 1, math.MaxInt} {
		if d, err := disk.New(room); d != nil || err != api.ErrArg {
			t.Errorf("New(%d): %v, %d", room, d, err)
		}
	}
}

// Two disks have nothing in common.
func TestP6_1Two(t *testing.T) {
	d, e := made(t, 100), made(t, 100)
	checkErr(t, d, app("a", "x"), api.OK)
	checkErr(t, e, app("b", "yz"), api.OK)
	checkErr(t, d, syncAll(), api.OK)
	checkErr(t, e, fuse(0), api.OK)
	checkFiles(t, d, texts{"a": "x"}, "b")
	checkCounts(t, d, 99, 0)
	checkErr(t, e, crash(1, 0), api.OK)
	checkFiles(t, e, texts{"b": "yz"}, "a")
	checkCounts(t, e, 98, 0)
}

func checkName(t *testing.T, s string) {
	t.Helper()
	if is := disk.Name(s); is != valid(s) {
		t.Errorf("Name(%q): %v", s, is)
	}
}

func TestP6_1Name(t *testing.T) {
	for i := range 256 {
		checkName(t, string([]byte{byte(i)}))
		for j := range 256 {
			checkName(t, string([]byte{byte(i), byte(j)}))
		}
		for at := range api.MaxFileName {
			name := []byte(strings.Repeat("a", api.MaxFileName))
			name[at] = byte(i)
			checkName(t, string(name))
		}
	}
	for n := range 300 {
		checkName(t, strings.Repeat("z", n))
		checkName(t, strings.Repeat("-", n))
		checkName(t, strings.Repeat("é", n))
	}
	for _, s := range []string{"", "a", ".", "..", "-", "_", "0", "wal-000.seg", "a_b", strings.Repeat("9", api.MaxFileName)} {
		if disk.Name(s) != (s != "") {
			t.Errorf("Name(%q): %v", s, s == "")
		}
	}
	for _, s := range []string{"A", "aB", "a b", "a/b", "a\x00", "ß", "ª", "a\n", " a", strings.Repeat("a", api.MaxFileName+1), strings.Repeat("a", 256+1), strings.Repeat("a", 65536+1)} {
		if disk.Name(s) {
			t.Errorf("Name(%q): true", s)
		}
	}
}

func TestP6_1Names(t *testing.T) {
	order := []string{"-", "--", ".", ".a", "0", "00", "9", "_", "a", "a-", "a.", "a0", "a_", "aa", "b", "z"}
	mixed := []string{"b", "aa", "a", "_", "9", ".a", "a_", "--", "0", "z", "a.", ".", "a-", "-", "00", "a0"}
	d := made(t, 100)
	for _, name := range mixed {
		checkErr(t, d, app(name, ""), api.OK)
	}
	for range 20 {
		if names := d.Names(); !slices.Equal(names, order) {
			t.Fatalf("Names: %q", names)
		}
	}
	d.Names()[0] = "changed"
	if names := d.Names(); names[0] != "-" {
		t.Errorf("Names, of which one was changed: %q", names)
	}
	for i, name := range mixed {
		checkErr(t, d, remove(name), api.OK)
		order = slices.DeleteFunc(order, func(s string) bool { return s == name })
		if names := d.Names(); !slices.Equal(names, order) {
			t.Errorf("Names, %d of which were removed: %q", i+1, names)
		}
	}
}

func TestP6_1LeftAndLoose(t *testing.T) {
	d := hundred(t)
	checkCounts(t, d, 97, 0)
	for i, c := range []struct {
		call
		left, loose int
	}{
		{app("a", "123"), 94, 1},
		{app("c", ""), 94, 2},
		{app("a", ""), 94, 3},
		{cut("a", 5), 94, 4},
		{cut("a", 1), 98, 5},
		{rename("b", "b"), 98, 6},
		{rename("a", "b"), 99, 7},
		{remove("c"), 99, 8},
		{remove("b"), 100, 9},
		{app("d", "four"), 96, 10},
		{syncAll(), 96, 0},
		{syncAll(), 96, 0},
		{remove("d"), 100, 1},
		{crash(0, 0), 96, 0},
		{app("d", "five5"), 91, 1},
		{crash(0, 2), 94, 0},
	} {
		checkErr(t, d, c.call, api.OK)
		if d.Left() != c.left || d.Loose() != c.loose {
			t.Errorf("%d: %d left, %d loose, not %d and %d", i, d.Left(), d.Loose(), c.left, c.loose)
		}
	}
}

// What is refused is not unsynced, and takes no room.
func TestP6_1Refused(t *testing.T) {
	d := made(t, 3, app("a", "xy"))
	for _, c := range []call{app("A", ""), app("a", "zz"), cut("b", 0), cut("a", 3), rename("b", "c"), rename("a", ""), remove("b"), alter("a", 0, 1)} {
		if c.on(d) == api.OK {
			t.Errorf("%v is done", c)
		}
		checkCounts(t, d, 1, 1)
		checkFiles(t, d, texts{"a": "xy"}, "b", "c")
	}
}

func TestP6_1Failed(t *testing.T) {
	d := hundred(t)
	checkErr(t, d, app("c", "1234"), api.OK)
	checkErr(t, d, fuse(0), api.OK)
	checkCounts(t, d, 93, 1)
	if names := d.Names(); !slices.Equal(names, []string{"a", "b", "c"}) {
		t.Errorf("Names: %q", names)
	}
}

func TestP6_1Nil(t *testing.T) {
	for i, d := range unmade() {
		if names := d.Names(); len(names) != 0 || d.Left() != 0 || d.Loose() != 0 {
			t.Errorf("%d: %q, %d left, %d loose", i, names, d.Left(), d.Loose())
		}
	}
}

func TestP6_2Nil(t *testing.T) {
	for _, d := range unmade() {
		for _, c := range []call{app("a", "x"), app("", ""), cut("a", 0), cut("", -1), rename("a", "b"), rename("", ""), remove("a"), remove(""), syncAll()} {
			checkErr(t, d, c, api.ErrNil)
		}
		if len(d.Names()) != 0 || d.Loose() != 0 {
			t.Errorf("a disk that is none: %q, %d loose", d.Names(), d.Loose())
		}
	}
}

func TestP6_2Append(t *testing.T) {
	p := newPair(t, 20)
	p.do(t, app("a", ""), app("a", "x"), app("a", ""), app("a", "yz\x00\xff"), app("b", "1"), app("a", "\n"), app("c", ""))
	for _, name := range []string{"", "A", "a b", "a/b", "é", "a\x00", strings.Repeat("a", 33)} {
		p.do(t, app(name, ""), app(name, "x"))
	}
	p.do(t, app(strings.Repeat("a", 32), "x"), app(strings.Repeat("a", 33), strings.Repeat("x", 100)))
	checkErr(t, p.disk, app("A", strings.Repeat("x", 100)), api.ErrArg)
	checkErr(t, p.disk, app("a", strings.Repeat("x", 100)), api.ErrFull)
}

// A disk that is just full has room for what has no bytes.
func TestP6_2Full(t *testing.T) {
	for _, room := range []int{0, 1, 2, 10} {
		p := newPair(t, room)
		half := strings.Repeat("x", room/2)
		p.do(t, app("a", strings.Repeat("x", room+1)), app("a", half), app("b", strings.Repeat("y", room-room/2+1)), app("b", strings.Repeat("y", room-room/2)))
		if p.disk.Left() != 0 {
			t.Errorf("room %d: %d left", room, p.disk.Left())
		}
		p.do(t, app("b", ""), app("c", ""), app("a", "z"), app("d", "z"), remove("a"), app("b", half), app("b", "z"), syncAll(), app("b", "z"))
	}
}

func TestP6_2FullWhole(t *testing.T) {
	d := made(t, api.MaxRoom)
	data := strings.Repeat("0123456789abcdef", api.MaxRoom/16)
	checkErr(t, d, app("a", data+"x"), api.ErrFull)
	checkErr(t, d, app("a", data[1:]), api.OK)
	checkErr(t, d, app("b", "yz"), api.ErrFull)
	checkErr(t, d, app("b", "y"), api.OK)
	checkErr(t, d, app("a", "z"), api.ErrFull)
	checkFiles(t, d, texts{"a": data[1:], "b": "y"})
	checkCounts(t, d, 0, 2)
	checkErr(t, d, crash(0, len(data)), api.OK)
	checkErr(t, d, remove("a"), api.OK)
	checkErr(t, d, syncAll(), api.OK)
	for _, bytes := range []int{math.MaxInt, api.MaxRoom + 1, api.MaxRoom, api.MaxRoom - 1} {
		checkErr(t, d, app("a", data), api.OK)
		checkErr(t, d, crash(0, bytes), api.OK)
		checkFiles(t, d, texts{"a": data[:min(bytes, api.MaxRoom)]})
		checkErr(t, d, remove("a"), api.OK)
		checkErr(t, d, syncAll(), api.OK)
	}
	checkErr(t, d, app("a", data[1:]), api.OK)
	checkErr(t, d, syncAll(), api.OK)
	checkErr(t, d, app("a", "z"), api.OK)
	checkErr(t, d, crash(-1, 0), api.OK)
	checkFiles(t, d, texts{"a": data[1:]}, "b")
	checkErr(t, d, cut("a", 1), api.OK)
	checkErr(t, d, app("b", data[1:]), api.OK)
	checkErr(t, d, crash(1, len(data)-3), api.OK)
	checkFiles(t, d, texts{"a": "1", "b": data[1 : len(data)-2]})
	checkCounts(t, d, 2, 0)
}

// There are at most MaxFiles files: another one is not created, those that are there are appended to.
func TestP6_2Files(t *testing.T) {
	p := newPair(t, 200)
	for i := range api.MaxFiles {
		p.do(t, app("f"+strconv.Itoa(i), strconv.Itoa(i)))
	}
	if n := len(p.disk.Names()); n != 64 {
		t.Fatalf("%d files", n)
	}
	p.do(t, app("g", ""), app("g", "x"), app("f0", "x"), app("f63", ""), app("G", "x"), app("f0", strings.Repeat("x", 200)))
	checkErr(t, p.disk, app("g", ""), api.ErrFull)
	p.do(t, rename("f5", "g"), app("f5", ""), rename("g", "f7"), app("f5", "again"), app("g", ""))
	p.do(t, syncAll(), app("g", ""), remove("f0"), app("g", ""), app("h", ""), crash(1, 0), app("h", ""), app("g", ""))
	if n := len(p.disk.Names()); n != 64 {
		t.Errorf("%d files", n)
	}
}

func TestP6_2Cut(t *testing.T) {
	for _, n := range []int{math.MinInt, -1, 0, 1, 4, 5, 6, math.MaxInt} {
		d := made(t, 100, app("a", "hello"), app("b", "other"))
		if n < 0 || n > 5 {
			checkErr(t, d, cut("a", n), api.ErrArg)
			checkFiles(t, d, texts{"a": "hello", "b": "other"})
		} else {
			checkErr(t, d, cut("a", n), api.OK)
			checkFiles(t, d, texts{"a": "hello"[:n], "b": "other"})
		}
		for _, name := range []string{"c", "", "A", "a ", strings.Repeat("a", 33)} {
			checkErr(t, d, cut(name, n), api.ErrNone)
		}
	}
	p := newPair(t, 100)
	p.do(t, cut("a", 0), cut("a", -1), app("a", ""), cut("a", 0), cut("a", 1), app("a", "abc"), cut("a", 3), cut("a", 2), cut("a", 3), app("a", "xyz"), cut("a", 0), app("a", "new"))
}

// A file that was cut goes on behind what was kept, whatever else was there.
func TestP6_2CutLong(t *testing.T) {
	long := strings.Repeat("0123456789", 1000)
	for _, n := range []int{0, 1, 100, 4999, 5000, 5001, 9999, 10000} {
		d := made(t, 20000, app("a", long), syncAll(), cut("a", n), app("a", "end"))
		checkFiles(t, d, texts{"a": long[:n] + "end"})
		checkErr(t, d, crash(0, 0), api.OK)
		checkFiles(t, d, texts{"a": long})
		checkErr(t, d, cut("a", n), api.OK)
		checkErr(t, d, app("a", "other"), api.OK)
		checkErr(t, d, crash(1, 2), api.OK)
		checkFiles(t, d, texts{"a": long[:n] + "ot"})
		checkErr(t, d, syncAll(), api.OK)
		checkFiles(t, d, texts{"a": long[:n] + "ot"})
	}
}

func TestP6_2Rename(t *testing.T) {
	d := hundred(t)
	checkErr(t, d, rename("a", "c"), api.OK)
	checkFiles(t, d, texts{"b": "z", "c": "xy"}, "a")
	checkErr(t, d, rename("c", "b"), api.OK)
	checkFiles(t, d, texts{"b": "xy"}, "a", "c")
	checkErr(t, d, rename("b", "b"), api.OK)
	checkFiles(t, d, texts{"b": "xy"}, "a", "c")
	checkCounts(t, d, 98, 3)
	checkErr(t, d, rename("b", strings.Repeat("-", 32)), api.OK)
	checkFiles(t, d, texts{strings.Repeat("-", 32): "xy"}, "b")
	d = hundred(t)
	for _, to := range []string{"", "A", "a b", "a\xff", strings.Repeat("-", 33)} {
		checkErr(t, d, rename("a", to), api.ErrArg)
		checkErr(t, d, rename("c", to), api.ErrNone)
		checkErr(t, d, rename(to, to), api.ErrNone)
		checkErr(t, d, rename(to, "a"), api.ErrNone)
	}
	checkErr(t, d, rename("c", "a"), api.ErrNone)
	checkErr(t, d, rename("c", "c"), api.ErrNone)
	checkFiles(t, d, texts{"a": "xy", "b": "z"}, "c")
	checkCounts(t, d, 97, 0)
}

// What two files were named does not hang on them any more.
func TestP6_2RenameAndGoOn(t *testing.T) {
	p := newPair(t, 100)
	p.do(t, app("a", "first"), app("b", "second"), syncAll(), rename("a", "c"), rename("b", "a"), rename("c", "b"), app("a", "A"), app("b", "B"), cut("a", 2), app("c", "third"), rename("c", "c"), app("c", "!"), syncAll(), app("c", "?"), crash(0, 0))
	checkFiles(t, p.disk, texts{"a": "se", "b": "firstB", "c": "third!"})
}

func TestP6_2Remove(t *testing.T) {
	d := hundred(t)
	for _, name := range []string{"c", "", "A", strings.Repeat("a", 33)} {
		checkErr(t, d, remove(name), api.ErrNone)
	}
	checkErr(t, d, remove("a"), api.OK)
	checkFiles(t, d, texts{"b": "z"}, "a")
	checkErr(t, d, remove("a"), api.ErrNone)
	checkErr(t, d, app("a", ""), api.OK)
	checkFiles(t, d, texts{"a": "", "b": "z"})
	checkErr(t, d, remove("a"), api.OK)
	checkErr(t, d, remove("b"), api.OK)
	checkFiles(t, d, nil, "a", "b")
	checkCounts(t, d, 100, 4)
}

func TestP6_2Sync(t *testing.T) {
	d := made(t, 100, syncAll(), app("a", "x"), app("b", "y"), syncAll(), app("a", "z"), remove("b"), rename("a", "c"), app("c", "."), cut("c", 2), syncAll())
	checkCounts(t, d, 98, 0)
	checkFiles(t, d, texts{"c": "xz"}, "a", "b")
	for _, calls := range []int{0, -1, 5, 1} {
		checkErr(t, d, crash(calls, 5), api.OK)
		checkFiles(t, d, texts{"c": "xz"}, "a", "b")
	}
}

// counted are calls that the fuse counts: of each kind, some that are done and some that are refused.
func counted() []call {
	return []call{app("a", "1"), app("b", ""), app("", ""), app("A", "x"), app("a", strings.Repeat("x", 200)), cut("a", 0), cut("c", 0), cut("a", -1), cut("a", 200), rename("a", "a"), rename("a", ""), rename("c", "a"), remove("a"), remove("c"), syncAll()}
}

func TestP6_2Fuse(t *testing.T) {
	for _, first := range counted() {
		for _, then := range counted() {
			p := newPair(t, 100)
			p.do(t, app("a", "xyz"), fuse(1), first, then, first, syncAll())
			p = newPair(t, 100)
			p.do(t, app("a", "xyz"), syncAll(), fuse(2), first, then, then, first, app("a", "more"))
		}
	}
}

// A disk that has failed says so ahead of anything else.
func TestP6_2Down(t *testing.T) {
	d := made(t, 100, app("a", "xyz"), syncAll(), fuse(0))
	for _, c := range counted() {
		checkErr(t, d, c, api.ErrDown)
		checkCounts(t, d, 97, 0)
	}
	checkErr(t, d, crash(9, 9), api.OK)
	checkFiles(t, d, texts{"a": "xyz"}, "b")
	d = made(t, 100, app("a", "xyz"), fuse(1), app("a", "!"))
	for _, c := range counted() {
		checkErr(t, d, c, api.ErrDown)
		checkCounts(t, d, 96, 2)
	}
	checkErr(t, d, crash(1, 9), api.OK)
	checkFiles(t, d, texts{"a": "xyz!"}, "b")
}

func TestP6_3Read(t *testing.T) {
	d := hundred(t)
	checkFiles(t, d, texts{"a": "xy", "b": "z"}, "c", "", "A", "a\x00", "ab", strings.Repeat("a", 33))
	checkErr(t, d, app("a", "\x00\xff"), api.OK)
	checkErr(t, d, app("c", ""), api.OK)
	checkFiles(t, d, texts{"a": "xy\x00\xff", "b": "z", "c": ""})
	before, _ := d.Read("a")
	checkErr(t, d, cut("a", 0), api.OK)
	checkErr(t, d, app("a", "other"), api.OK)
	if before != "xy\x00\xff" {
		t.Errorf("what was read has become %q", before)
	}
}

func TestP6_3Nil(t *testing.T) {
	for _, d := range unmade() {
		for _, name := range []string{"", "a"} {
			if s, err := d.Read(name); s != "" || err != api.ErrNil {
				t.Errorf("Read %q: %q, %d", name, s, err)
			}
		}
		for _, n := range []int{-1, 0, 1} {
			checkErr(t, d, fuse(n), api.ErrNil)
			checkErr(t, d, syncAll(), api.ErrNil)
		}
	}
}

func TestP6_3Fuse(t *testing.T) {
	for _, n := range []int{0, 1, 2, 3, 10, 100} {
		d := made(t, 100000, app("a", "x"), fuse(n))
		for i := range n {
			if s, err := d.Read("a"); s != strings.Repeat("x", i+1) || err != api.OK {
				t.Errorf("fuse %d, %d calls: %q, %d", n, i, s, err)
			}
			checkErr(t, d, app("a", "x"), api.OK)
		}
		for range 3 {
			if s, err := d.Read("a"); s != "" || err != api.ErrDown {
				t.Errorf("fuse %d, at its end: %q, %d", n, s, err)
			}
			if s, err := d.Read("b"); s != "" || err != api.ErrDown {
				t.Errorf("fuse %d, at its end, no file: %q, %d", n, s, err)
			}
			checkErr(t, d, app("a", "x"), api.ErrDown)
		}
		checkErr(t, d, crash(n+1, 0), api.OK)
		checkFiles(t, d, texts{"a": strings.Repeat("x", n+1)})
	}
}

func TestP6_3NoFuse(t *testing.T) {
	for _, n := range []int{-1, -2, -1000, math.MinInt, math.MaxInt} {
		d := made(t, 100000, fuse(n))
		for range 3000 {
			checkErr(t, d, app("a", "x"), api.OK)
			checkErr(t, d, cut("b", 1), api.ErrNone)
		}
		checkFiles(t, d, texts{"a": strings.Repeat("x", 3000)})
	}
}

// Only Append, Cut, Rename, Remove and Sync are counted.
func TestP6_3Uncounted(t *testing.T) {
	d := made(t, 100, app("a", "x"), syncAll(), fuse(2))
	for range 10 {
		checkFiles(t, d, texts{"a": "x"}, "b")
		checkCounts(t, d, 99, 0)
		checkErr(t, d, alter("a", 0, 0), api.OK)
		checkErr(t, d, alter("a", 1, 0), api.ErrArg)
	}
	for i, want := range []api.Errno{api.OK, api.OK, api.ErrDown, api.ErrDown} {
		if err := d.Sync(); err != want {
			t.Errorf("call %d: %d", i, err)
		}
	}
}

// A fuse takes the place of the one before, burnt or not.
func TestP6_3FuseAgain(t *testing.T) {
	p := newPair(t, 100)
	p.do(t, fuse(1), fuse(3), app("a", "x"), app("a", "y"), fuse(2), app("a", "z"), app("a", "!"), app("a", "?"))
	p.do(t, fuse(1), app("a", "1"), syncAll(), fuse(-1), syncAll(), app("a", "2"), fuse(0), app("a", "3"), fuse(-5), app("a", "4"))
	checkFiles(t, p.disk, texts{"a": "xyz!124"})
}

func TestP6_4Nil(t *testing.T) {
	for _, d := range unmade() {
		for _, n := range []int{-1, 0, 1} {
			checkErr(t, d, crash(n, n), api.ErrNil)
		}
	}
}

// crashes has the numbers around those of calls, or bytes, that there are.
func crashes(n int) []int {
	list := []int{math.MinInt, -2, -1, n + 1, n + 2, api.MaxRoom, api.MaxRoom + 1, api.MaxRoom + 2, math.MaxInt}
	for i := range n + 1 {
		list = append(list, i)
	}
	return list
}

func TestP6_4Examples(t *testing.T) {
	d := made(t, 100, app("a", "xy"), syncAll(), app("a", "z"), app("b", "w"), crash(1, 0))
	checkFiles(t, d, texts{"a": "xyz", "b": ""})
	d = made(t, 100, app("a", "xy"), syncAll(), cut("a", 1), crash(0, 0))
	checkFiles(t, d, texts{"a": "xy"})
	d = made(t, 100, app("a", "xyz"), crash(0, 2))
	checkFiles(t, d, texts{"a": "xy"})
}

// Each kind is the next one, with each number of bytes: an Append is done in part, all others not at all.
func TestP6_4Next(t *testing.T) {
	for _, bytes := range crashes(4) {
		d := hundred(t)
		checkErr(t, d, app("a", "1234"), api.OK)
		checkErr(t, d, crash(0, bytes), api.OK)
		checkFiles(t, d, texts{"a": "xy" + "1234"[:max(0, min(bytes, 4))], "b": "z"})
		d = hundred(t)
		checkErr(t, d, app("c", "1234"), api.OK)
		checkErr(t, d, crash(0, bytes), api.OK)
		checkFiles(t, d, texts{"a": "xy", "b": "z", "c": "1234"[:max(0, min(bytes, 4))]})
		for _, c := range []call{app("a", ""), cut("a", 0), cut("a", 1), rename("a", "b"), rename("a", "c"), remove("a")} {
			d := hundred(t)
			checkErr(t, d, c, api.OK)
			checkErr(t, d, app("d", "1234"), api.OK)
			checkErr(t, d, crash(0, bytes), api.OK)
			checkFiles(t, d, texts{"a": "xy", "b": "z"}, "c", "d")
			checkCounts(t, d, 97, 0)
		}
		for _, calls := range []int{-1, -2, math.MinInt} {
			d := hundred(t)
			checkErr(t, d, app("c", "1234"), api.OK)
			checkErr(t, d, crash(calls, bytes), api.OK)
			checkFiles(t, d, texts{"a": "xy", "b": "z"}, "c")
		}
	}
}

func TestP6_4Calls(t *testing.T) {
	since := []call{app("a", "12"), app("c", ""), cut("a", 3), rename("a", "d"), app("d", "34"), remove("b"), rename("c", "a"), app("a", "5")}
	for n := range len(since) + 1 {
		for _, calls := range crashes(n) {
			for _, bytes := range []int{math.MinInt, -1, 0, 1, 2, 3, api.MaxRoom, math.MaxInt} {
				p := newPair(t, 100)
				p.do(t, app("a", "xy"), app("b", "z"), syncAll())
				p.do(t, since[:n]...)
				p.do(t, crash(calls, bytes), app("b", "!"), crash(1, 0), crash(0, 0))
			}
		}
	}
}

// Behind a crash nothing is unsynced, there is no fuse, and the disk works.
func TestP6_4Works(t *testing.T) {
	for _, n := range []int{-1, 0, 1, 2, 5} {
		for _, calls := range []int{-1, 0, 1, 2, 3} {
			p := newPair(t, 100)
			p.do(t, app("a", "xy"), fuse(n), app("a", "z"), app("b", ""), app("b", "1234"), crash(calls, 1))
			checkCounts(t, p.disk, p.model.left(), 0)
			p.do(t, crash(0, 0), crash(5, 5), crash(-1, 5))
			for range 10 {
				p.do(t, app("c", "."), syncAll())
			}
		}
	}
}

func TestP6_4New(t *testing.T) {
	for _, calls := range crashes(1) {
		d := made(t, 10)
		checkErr(t, d, crash(calls, calls), api.OK)
		checkFiles(t, d, nil, "a")
		checkCounts(t, d, 10, 0)
		checkErr(t, d, app("a", "xy"), api.OK)
		checkErr(t, d, crash(-1, 1), api.OK)
		checkFiles(t, d, nil, "a")
	}
}

func TestP6_5Nil(t *testing.T) {
	for _, d := range unmade() {
		checkErr(t, d, alter("a", 0, 1), api.ErrNil)
		checkErr(t, d, alter("", -1, 0), api.ErrNil)
	}
}

func TestP6_5Alter(t *testing.T) {
	for by := range 256 {
		for at := range 3 {
			d := made(t, 100, app("a", "xyz"), app("b", "xyz"), syncAll(), alter("a", at, by))
			want := []byte("xyz")
			want[at] ^= byte(by)
			checkFiles(t, d, texts{"a": string(want), "b": "xyz"})
			checkCounts(t, d, 94, 0)
			checkErr(t, d, crash(-1, 0), api.OK)
			checkFiles(t, d, texts{"a": string(want), "b": "xyz"})
			checkErr(t, d, app("a", "!"), api.OK)
			checkErr(t, d, crash(0, 1), api.OK)
			checkErr(t, d, alter("a", at, by), api.OK)
			checkFiles(t, d, texts{"a": "xyz!", "b": "xyz"})
		}
	}
}

func TestP6_5Refused(t *testing.T) {
	for _, since := range [][]call{nil, {app("b", "")}, {cut("a", 2)}, {rename("b", "b")}, {app("c", "1"), remove("c")}} {
		d := hundred(t)
		for _, c := range since {
			checkErr(t, d, c, api.OK)
		}
		for _, at := range []int{math.MinInt, -1, 0, 1, 2, 3, math.MaxInt} {
			checkErr(t, d, alter("d", at, 1), api.ErrNone)
			checkErr(t, d, alter("", at, 1), api.ErrNone)
			if at < 0 || at > 1 {
				checkErr(t, d, alter("a", at, 1), api.ErrArg)
			} else if len(since) > 0 {
				checkErr(t, d, alter("a", at, 1), api.ErrState)
				checkErr(t, d, alter("a", at, 0), api.ErrState)
			}
		}
		checkFiles(t, d, texts{"a": "xy", "b": "z"}, "c", "d")
		checkCounts(t, d, 97, len(since))
	}
	d := made(t, 100, app("a", ""), syncAll())
	checkErr(t, d, alter("a", 0, 1), api.ErrArg)
	checkErr(t, d, app("a", "x"), api.OK)
	checkErr(t, d, alter("a", 0, 1), api.ErrState)
	checkErr(t, d, crash(0, 0), api.OK)
	checkErr(t, d, alter("a", 0, 1), api.ErrArg)
}

// A disk that has failed is altered like any other.
func TestP6_5Failed(t *testing.T) {
	d := made(t, 100, app("a", "xyz"), syncAll(), fuse(0))
	checkErr(t, d, alter("a", 1, 1), api.OK)
	checkErr(t, d, alter("a", 3, 1), api.ErrArg)
	checkErr(t, d, alter("b", 0, 1), api.ErrNone)
	checkErr(t, d, syncAll(), api.ErrDown)
	checkErr(t, d, crash(0, 0), api.OK)
	checkFiles(t, d, texts{"a": "xxz"})
}
