package disk_test

import (
	"maps"
	"slices"
	"strings"
	"testing"

	"codicil/api"
	"codicil/disk"
)

// call is a call of a disk, told as data.
type call struct {
	what string
	name string
	text string // what is appended, or the new name
	n    int
	m    int
}

func app(name, data string) call     { return call{what: "Append", name: name, text: data} }
func cut(name string, n int) call    { return call{what: "Cut", name: name, n: n} }
func rename(from, to string) call    { return call{what: "Rename", name: from, text: to} }
func remove(name string) call        { return call{what: "Remove", name: name} }
func syncAll() call                  { return call{what: "Sync"} }
func fuse(n int) call                { return call{what: "Fuse", n: n} }
func crash(calls, bytes int) call    { return call{what: "Crash", n: calls, m: bytes} }
func alter(s string, at, b int) call { return call{what: "Alter", name: s, n: at, m: b} }

// on has a disk perform the call.
func (c call) on(d *disk.Disk) api.Errno {
	switch c.what {
	case "Append":
		return d.Append(c.name, c.text)
	case "Cut":
		return d.Cut(c.name, c.n)
	case "Rename":
		return d.Rename(c.name, c.text)
	case "Remove":
		return d.Remove(c.name)
	case "Sync":
		return d.Sync()
	case "Fuse":
		return d.Fuse(c.n)
	case "Crash":
		return d.Crash(c.n, c.m)
	}
	return d.Alter(c.name, c.n, byte(c.m))
}

// model is the chapter's definition of a disk: what was synced, and the operations since then, which are all done again whenever something is asked.
type model struct {
	room   int
	synced map[string]string
	loose  []call
	fuse   int // negative: none
}

func newModel(room int) *model {
	return &model{room: room, synced: map[string]string{}, fuse: -1}
}

// done does an operation on files.
func done(files map[string]string, c call) {
	switch c.what {
	case "Append":
		files[c.name] += c.text
	case "Cut":
		files[c.name] = files[c.name][:c.n]
	case "Rename":
		if c.name != c.text {
			files[c.text] = files[c.name]
			delete(files, c.name)
		}
	case "Remove":
		delete(files, c.name)
	}
}

// files has what is there once the first n operations are done.
func (m *model) files(n int) map[string]string {
	files := maps.Clone(m.synced)
	for _, c := range m.loose[:n] {
		done(files, c)
	}
	return files
}

func (m *model) now() map[string]string { return m.files(len(m.loose)) }

func (m *model) left() int {
	left := m.room
	for _, data := range m.now() {
		left -= len(data)
	}
	return left
}

// valid is the chapter's definition of a file's name.
func valid(name string) bool {
	return 1 <= len(name) && len(name) <= 32 && strings.Trim(name, "abcdefghijklmnopqrstuvwxyz0123456789.-_") == ""
}

// refused tells why an operation is not done.
func (m *model) refused(c call) api.Errno {
	files := m.now()
	data, there := files[c.name]
	switch c.what {
	case "Append":
		if !valid(c.name) {
			return api.ErrArg
		}
		if m.left() < len(c.text) || !there && len(files) == 64 {
			return api.ErrFull
		}
		return api.OK
	case "Cut":
		if there && (c.n < 0 || c.n > len(data)) {
			return api.ErrArg
		}
	case "Rename":
		if there && !valid(c.text) {
			return api.ErrArg
		}
	}
	if !there {
		return api.ErrNone
	}
	return api.OK
}

// operate is of the calls that a fuse counts.
func (m *model) operate(c call) api.Errno {
	if m.fuse == 0 {
		return api.ErrDown
	}
	if m.fuse > 0 {
		m.fuse--
	}
	if c.what == "Sync" {
		m.synced, m.loose = m.now(), nil
		return api.OK
	}
	err := m.refused(c)
	if err == api.OK {
		m.loose = append(m.loose, c)
	}
	return err
}

func (m *model) crash(calls, bytes int) {
	done := max(0, min(calls, len(m.loose)))
	files := m.files(done)
	if calls >= 0 && done < len(m.loose) && m.loose[done].what == "Append" {
		next := m.loose[done]
		files[next.name] += next.text[:max(0, min(bytes, len(next.text)))]
	}
	m.synced, m.loose, m.fuse = files, nil, -1
}

func (m *model) alter(c call) api.Errno {
	data, there := m.now()[c.name]
	if !there {
		return api.ErrNone
	}
	if c.n < 0 || c.n >= len(data) {
		return api.ErrArg
	}
	if len(m.loose) > 0 {
		return api.ErrState
	}
	b := []byte(data)
	b[c.n] ^= byte(c.m)
	m.synced[c.name] = string(b)
	return api.OK
}

func (m *model) perform(c call) api.Errno {
	switch c.what {
	case "Crash":
		m.crash(c.n, c.m)
	case "Fuse":
		m.fuse = c.n
	case "Alter":
		return m.alter(c)
	default:
		return m.operate(c)
	}
	return api.OK
}

// checkFiles holds a disk to its files, and to what it tells of them; absent names are those of no file.
func checkFiles(t *testing.T, d *disk.Disk, files map[string]string, absent ...string) {
	t.Helper()
	if names := d.Names(); !slices.Equal(names, slices.Sorted(maps.Keys(files))) {
		t.Errorf("Names: %q, not those of %d files", names, len(files))
	}
	for name, data := range files {
		if s, err := d.Read(name); s != data || err != api.OK {
			t.Errorf("Read %q: %.40q, %d, not %.40q", name, s, err, data)
		}
	}
	for _, name := range absent {
		if s, err := d.Read(name); s != "" || err != api.ErrNone {
			t.Errorf("Read %q: %.40q, %d, but there is none", name, s, err)
		}
	}
}

// pair is a disk, and what the chapter says of it.
type pair struct {
	disk  *disk.Disk
	model *model
}

func newPair(t *testing.T, room int) pair {
	t.Helper()
	d, err := disk.New(room)
	if err != api.OK {
		t.Fatalf("New(%d): %d", room, err)
	}
	return pair{d, newModel(room)}
}

// check holds all that can be asked of the disk to the model.
func (p pair) check(t *testing.T) {
	t.Helper()
	if left := p.disk.Left(); left != p.model.left() {
		t.Errorf("Left: %d, not %d", left, p.model.left())
	}
	if loose := p.disk.Loose(); loose != len(p.model.loose) {
		t.Errorf("Loose: %d, not %d", loose, len(p.model.loose))
	}
	files := p.model.now()
	if p.model.fuse != 0 {
		checkFiles(t, p.disk, files, "absent", "", "B")
		return
	}
	if names := p.disk.Names(); !slices.Equal(names, slices.Sorted(maps.Keys(files))) {
		t.Errorf("Names of a disk that has failed: %q, not those of %d files", names, len(files))
	}
	for _, name := range append(p.disk.Names(), "absent", "") {
		if s, err := p.disk.Read(name); s != "" || err != api.ErrDown {
			t.Errorf("Read %q of a disk that has failed: %.40q, %d", name, s, err)
		}
	}
}

// do has both perform the calls, and checks them behind each; it tells whether all is as it must be.
func (p pair) do(t *testing.T, calls ...call) bool {
	t.Helper()
	for i, c := range calls {
		got, want := c.on(p.disk), p.model.perform(c)
		if got != want {
			t.Errorf("call %d of %.200v: %d, not %d", i, calls, got, want)
		}
		p.check(t)
		if t.Failed() {
			t.Logf("behind call %d of %.400v", i, calls)
			return false
		}
	}
	return true
}
