package disk_test

import (
	"maps"
	"runtime"
	"strconv"
	"strings"
	"testing"
	"unsafe"

	"codicil/api"
	"codicil/disk"
)

// chance is a source of numbers that are the same each time.
type chance uint64

func (c *chance) below(n int) int {
	*c = *c*6364136223846793005 + 1442695040888963407
	return int(uint64(*c) >> 33 % uint64(n))
}

func (c *chance) text(most int) string {
	return strings.Repeat(string(rune('a'+c.below(26))), c.below(most+1)) + strings.Repeat(string(rune('0'+c.below(10))), c.below(2))
}

func (c *chance) name() string {
	return []string{"a", "b", "c", "d.0", "e-_", "", "F"}[c.below(7)]
}

// operation is some call of those that a crash may undo.
func (c *chance) operation() call {
	switch c.below(8) {
	case 0:
		return cut(c.name(), c.below(8)-1)
	case 1:
		return rename(c.name(), c.name())
	case 2:
		return remove(c.name())
	}
	return app(c.name(), c.text(6))
}

func (c *chance) call() call {
	switch c.below(20) {
	case 0, 1:
		return syncAll()
	case 2:
		return fuse(c.below(12) - 3)
	case 3:
		return crash(c.below(12)-1, c.below(8)-1)
	case 4, 5:
		return alter(c.name(), c.below(6)-1, c.below(256))
	}
	return c.operation()
}

// Whatever was done, the disk is as the chapter says.
func TestP6_6Mixed(t *testing.T) {
	for seed := range 3000 {
		c := chance(seed)
		p := newPair(t, c.below(60))
		for range 60 {
			if !p.do(t, c.call()) {
				t.Fatalf("seed %d", seed)
			}
		}
	}
}

// few are operations on two files, out of which all short runs are made.
func few() []call {
	return []call{app("a", "12"), app("b", "3"), app("b", ""), cut("a", 0), cut("a", 1), cut("b", 2), rename("a", "b"), rename("b", "a"), rename("b", "c"), rename("a", "a"), remove("a"), remove("b"), syncAll()}
}

// All runs of three operations, each followed by each crash.
func TestP6_6Short(t *testing.T) {
	for _, first := range few() {
		for _, second := range few() {
			for _, third := range few() {
				for calls := -1; calls <= 4; calls++ {
					for bytes := -1; bytes <= 3; bytes++ {
						p := newPair(t, 7)
						if !p.do(t, app("a", "xyz"), syncAll(), first, second, third, crash(calls, bytes), crash(0, 0)) {
							t.FailNow()
						}
					}
				}
			}
		}
	}
}

// held has what is read of a disk.
func held(t *testing.T, d *disk.Disk) texts {
	t.Helper()
	files := texts{}
	for _, name := range d.Names() {
		s, err := d.Read(name)
		if err != api.OK {
			t.Fatalf("Read %q: %d", name, err)
		}
		files[name] = s
	}
	return files
}

// history is a run of operations that were done since a sync, with what was read of the disk ahead of each, and at last.
type history struct {
	done  []call
	files []texts
}

func record(t *testing.T, d *disk.Disk, c *chance, n int) history {
	t.Helper()
	h := history{files: []texts{held(t, d)}}
	for range n {
		next := c.operation()
		if next.on(d) == api.OK {
			h.done = append(h.done, next)
			h.files = append(h.files, held(t, d))
		}
	}
	return h
}

// left has what the run leaves of its beginning, and of the operation that follows.
func (h history) left(calls, bytes int) texts {
	files := maps.Clone(h.files[max(0, min(calls, len(h.done)))])
	if calls >= 0 && calls < len(h.done) && h.done[calls].what == "Append" {
		next := h.done[calls]
		files[next.name] += next.text[:max(0, min(bytes, len(next.text)))]
	}
	return files
}

// untouched has the files that no operation of the run was to take anything from.
func (h history) untouched() texts {
	files := maps.Clone(h.files[0])
	for _, c := range h.done {
		if c.what != "Append" {
			delete(files, c.name)
		}
		if c.what == "Rename" {
			delete(files, c.text)
		}
	}
	return files
}

// A crash leaves what was read between two calls, or behind some bytes of one; what was synced is there still.
func TestP6_6Prefix(t *testing.T) {
	for seed := range 2000 {
		c := chance(seed)
		d := made(t, 200)
		for range 6 {
			record(t, d, &c, 5)
			checkErr(t, d, syncAll(), api.OK)
			h := record(t, d, &c, 8)
			calls, bytes := c.below(len(h.done)+3)-1, c.below(9)-1
			checkErr(t, d, crash(calls, bytes), api.OK)
			files := held(t, d)
			if want := h.left(calls, bytes); !maps.Equal(files, want) {
				t.Fatalf("seed %d, %v, Crash(%d, %d): %q, not %q", seed, h.done, calls, bytes, files, want)
			}
			for name, data := range h.untouched() {
				if s, is := files[name]; !is || !strings.HasPrefix(s, data) {
					t.Fatalf("seed %d, %v, Crash(%d, %d): %q is %q, but %q was synced", seed, h.done, calls, bytes, name, s, data)
				}
			}
		}
	}
}

// A disk that fails at any call, and then crashes, has a beginning of what was asked of it.
func TestP6_6Fuse(t *testing.T) {
	run := []call{app("log", "one"), syncAll(), app("log", "two"), app("tmp", "vote"), syncAll(), rename("tmp", "vote"), cut("log", 4), syncAll(), remove("vote"), app("log", "!")}
	for n := range len(run) + 1 {
		for calls := -1; calls < 4; calls++ {
			for bytes := -1; bytes < 5; bytes++ {
				p := newPair(t, 100)
				p.do(t, fuse(n))
				p.do(t, run...)
				if !p.do(t, crash(calls, bytes), app("log", "again"), syncAll()) {
					return
				}
			}
		}
	}
}

// What is handed in is not kept: its memory may become something else.
func TestP6_6Arguments(t *testing.T) {
	memory, to := []byte("namedata"), []byte("other")
	name, data, other := unsafe.String(&memory[0], 4), unsafe.String(&memory[4], 4), unsafe.String(&to[0], 5)
	for _, c := range []struct {
		call
		files texts
	}{
		{app(name, data), texts{"name": "firstdata", "x": "y"}},
		{cut(name, 3), texts{"name": "fir", "x": "y"}},
		{rename(name, other), texts{"other": "first", "x": "y"}},
		{rename("x", name), texts{"name": "y"}},
		{remove(name), texts{"x": "y"}},
		{app(other, name), texts{"name": "first", "other": "name", "x": "y"}},
	} {
		copy(memory, "namedata")
		copy(to, "other")
		d := made(t, 100, app("name", "first"), app("x", "y"), syncAll(), c.call, app("z", ""))
		copy(memory, "--------")
		copy(to, "-----")
		checkErr(t, d, crash(1, 0), api.OK)
		c.files["z"] = ""
		checkFiles(t, d, c.files, "----", "-----")
	}
}

// Files that were cut to nothing, or removed, take no memory any more.
func TestP6_6Memory(t *testing.T) {
	data := strings.Repeat("x", api.MaxRoom)
	d := made(t, api.MaxRoom)
	var before, behind runtime.MemStats
	runtime.GC()
	runtime.ReadMemStats(&before)
	for i := range 12 {
		name := "f" + strconv.Itoa(i)
		for _, c := range []call{app(name, data), syncAll(), cut(name, i%2), syncAll(), remove("f1"), syncAll()} {
			c.on(d)
		}
		checkErr(t, d, app(name, ""), api.OK)
		checkErr(t, d, cut(name, 0), api.OK)
		checkErr(t, d, syncAll(), api.OK)
	}
	runtime.GC()
	runtime.ReadMemStats(&behind)
	if grown := int64(behind.HeapAlloc) - int64(before.HeapAlloc); grown > api.MaxRoom {
		t.Errorf("an empty disk has %d bytes", grown)
	}
	checkCounts(t, d, api.MaxRoom, 0)
	runtime.KeepAlive(data)
}

// Many small calls on much that is there take no time that grows with what is there.
func TestP6_6Many(t *testing.T) {
	d := made(t, api.MaxRoom, app("a", strings.Repeat("x", api.MaxRoom/2)), syncAll())
	for i := range 200000 {
		checkErr(t, d, app("a", "y"), api.OK)
		if i%2 == 0 {
			checkErr(t, d, cut("a", api.MaxRoom/2), api.OK)
			checkErr(t, d, syncAll(), api.OK)
		}
	}
	checkCounts(t, d, api.MaxRoom/2-1, 1)
}
