package wal_test

import (
	"encoding/binary"
	"fmt"
	"hash/crc32"
	"slices"
	"strconv"
	"strings"
	"testing"

	"codicil/api"
	"codicil/disk"
	"codicil/wal"
)

const most = 1 << 48 // MaxIndex

// framed is layer 7's definition of a frame.
func framed(text string) string {
	length := binary.BigEndian.AppendUint32(nil, uint32(len(text)))
	head := binary.LittleEndian.AppendUint32(length, crc32.ChecksumIEEE(length))
	return string(head) + text + string(binary.LittleEndian.AppendUint32(nil, crc32.ChecksumIEEE([]byte(text))))
}

func framedAll(texts ...string) string {
	all := ""
	for _, text := range texts {
		all += framed(text)
	}
	return all
}

// scanned is layer 7's Scan: the texts, the bytes that they have, and what is wrong with the rest.
func scanned(s string) (texts []string, n int, err api.Errno) {
	for n < len(s) {
		b := []byte(s[n:])
		if len(b) < 8 {
			return texts, n, api.ErrTorn
		}
		if binary.LittleEndian.Uint32(b[4:]) != crc32.ChecksumIEEE(b[:4]) {
			return texts, n, api.ErrSum
		}
		length := int(binary.BigEndian.Uint32(b))
		if length > 1<<14 {
			return texts, n, api.ErrLong
		}
		if len(b) < length+12 {
			return texts, n, api.ErrTorn
		}
		if binary.LittleEndian.Uint32(b[8+length:]) != crc32.ChecksumIEEE(b[8:8+length]) {
			return texts, n, api.ErrSum
		}
		texts = append(texts, string(b[8:8+length]))
		n += length + 12
	}
	return texts, n, api.OK
}

func segment(n uint64) string { return fmt.Sprintf("wal-%016x", n) }
func mark(n uint64) string    { return fmt.Sprintf("reset-%016x", n) }

// numbered is the chapter's definition of a name: the number behind prefix, or 0.
func numbered(name, prefix string) uint64 {
	rest := strings.TrimPrefix(name, prefix)
	n, err := strconv.ParseUint(rest, 16, 64)
	if err != nil || len(rest) != 16 || strings.ToLower(rest) != rest || n > most {
		return 0
	}
	return n
}

func begin(names []string, prefix string) []string {
	return slices.DeleteFunc(slices.Clone(names), func(s string) bool { return !strings.HasPrefix(s, prefix) })
}

// rows is a segment: the number of its first record, and all.
type rows struct {
	first uint64
	texts []string
}

func (r rows) next() uint64 { return r.first + uint64(len(r.texts)) }

// model is the chapter's log, word by word, on a disk of its own.
type model struct {
	d    *disk.Disk
	size int
	open bool
	down bool
	segs []rows
}

// step is one call of the disk, and what it changes in the log if it is done.
type step struct {
	call func() api.Errno
	then func()
}

// perform does steps up to the first error.
func (m *model) perform(steps ...step) api.Errno {
	for _, s := range steps {
		if err := s.call(); err != api.OK {
			m.down = m.down || err == api.ErrDown
			return err
		}
		if s.then != nil {
			s.then()
		}
	}
	return api.OK
}

func (m *model) create(name, data string) step {
	return step{call: func() api.Errno { return m.d.Append(name, data) }}
}

func (m *model) remove(name string) step {
	return step{call: func() api.Errno { return m.d.Remove(name) }}
}

func (m *model) rename(from, to string) step {
	return step{call: func() api.Errno { return m.d.Rename(from, to) }}
}

func (m *model) sync() step { return step{call: m.d.Sync} }

func (m *model) first() uint64 { return m.segs[0].first }
func (m *model) last() *rows   { return &m.segs[len(m.segs)-1] }
func (m *model) next() uint64  { return m.last().next() }

// marks does what Open does first.
func (m *model) marks() api.Errno {
	marks := begin(m.d.Names(), "reset-")
	if len(marks) == 0 {
		return api.OK
	}
	n := numbered(marks[0], "reset-")
	if len(marks) > 1 || n == 0 {
		return api.ErrBad
	}
	var steps []step
	files := begin(m.d.Names(), "wal-")
	for i := len(files) - 1; i >= 0; i-- {
		steps = append(steps, m.remove(files[i]))
	}
	return m.perform(append(steps, m.rename(marks[0], segment(n)), m.sync())...)
}

// begun does what Open does with the names of segments.
func (m *model) begun() api.Errno {
	files := begin(m.d.Names(), "wal-")
	for _, name := range files {
		if numbered(name, "wal-") == 0 {
			return api.ErrBad
		}
	}
	if len(files) == 0 {
		return m.perform(m.create(segment(1), ""), m.sync())
	}
	return api.OK
}

// scan reads all segments; torn is the bytes that the last one keeps, or -1.
func (m *model) scan() (torn int, err api.Errno) {
	torn = -1
	m.segs = nil
	files := begin(m.d.Names(), "wal-")
	for i, name := range files {
		data, err := m.d.Read(name)
		if err != api.OK {
			return -1, err
		}
		texts, n, err := scanned(data)
		first := numbered(name, "wal-")
		if i > 0 && first != m.next() {
			return -1, api.ErrBad
		}
		if err != api.OK && (err != api.ErrTorn || i < len(files)-1) {
			return -1, api.ErrBad
		}
		if err == api.ErrTorn {
			torn = n
		}
		m.segs = append(m.segs, rows{first, texts})
	}
	if m.next() > most {
		return -1, api.ErrBad
	}
	return torn, api.OK
}

func (m *model) load() api.Errno {
	if err := m.marks(); err != api.OK {
		return err
	}
	if err := m.begun(); err != api.OK {
		return err
	}
	torn, err := m.scan()
	if err != api.OK || torn < 0 {
		return err
	}
	name := segment(m.last().first)
	return m.perform(step{call: func() api.Errno { return m.d.Cut(name, torn) }}, m.sync())
}

func (m *model) start(size int) api.Errno {
	m.open = false
	if size < 1 || size > 1<<16 {
		return api.ErrArg
	}
	err := m.load()
	m.open, m.down, m.size = err == api.OK, false, size
	return err
}

func (m *model) records() []string {
	var all []string
	for _, s := range m.segs {
		all = append(all, s.texts...)
	}
	return all
}

func (m *model) append(record string) api.Errno {
	if len(record) > 1<<14 {
		return api.ErrLong
	}
	if m.next() == most {
		return api.ErrOver
	}
	var steps []step
	number := m.last().first
	if len(framedAll(m.last().texts...)) >= m.size {
		number = m.next()
		more := m.create(segment(number), "")
		more.then = func() { m.segs = append(m.segs, rows{first: number}) }
		steps = append(steps, more)
	}
	put := m.create(segment(number), framed(record))
	put.then = func() { m.last().texts = append(slices.Clone(m.last().texts), record) }
	return m.perform(append(steps, put)...)
}

func (m *model) cut(index uint64) api.Errno {
	if index < m.first() || index > m.next() {
		return api.ErrArg
	}
	var steps []step
	stays := len(m.segs)
	for stays > 1 && m.segs[stays-1].first >= index {
		stays--
		gone := m.remove(segment(m.segs[stays].first))
		left := m.segs[:stays]
		gone.then = func() { m.segs = left }
		steps = append(steps, gone)
	}
	if last := m.segs[stays-1]; last.next() > index {
		keep := last.texts[:index-last.first]
		steps = append(steps, step{
			call: func() api.Errno { return m.d.Cut(segment(last.first), len(framedAll(keep...))) },
			then: func() { m.last().texts = keep },
		})
	}
	return m.perform(append(steps, m.sync())...)
}

func (m *model) trim(index uint64) api.Errno {
	if index > m.next() {
		return api.ErrArg
	}
	var steps []step
	for n := 1; n < len(m.segs) && m.segs[n].first <= index; n++ {
		gone := m.remove(segment(m.segs[n-1].first))
		left := m.segs[n:]
		gone.then = func() { m.segs = left }
		steps = append(steps, gone)
	}
	if len(steps) > 0 {
		steps = append(steps, m.sync())
	}
	return m.perform(steps...)
}

func (m *model) reset(first uint64) api.Errno {
	if first < 1 || first > most {
		return api.ErrArg
	}
	steps := []step{m.create(mark(first), ""), m.sync()}
	for i := len(m.segs) - 1; i >= 0; i-- {
		steps = append(steps, m.remove(segment(m.segs[i].first)))
	}
	end := m.sync()
	end.then = func() { m.segs = []rows{{first: first}} }
	return m.perform(append(steps, m.rename(mark(first), segment(first)), end)...)
}

// op is something that is done to a log, or to its disk.
type op struct {
	what string
	text string
	n    uint64
	a, b int
}

func add(record string) op        { return op{what: "append", text: record} }
func syncLog() op                 { return op{what: "sync"} }
func cutAt(n uint64) op           { return op{what: "cut", n: n} }
func trimAt(n uint64) op          { return op{what: "trim", n: n} }
func resetAt(n uint64) op         { return op{what: "reset", n: n} }
func openWith(size int) op        { return op{what: "open", a: size} }
func fuse(calls int) op           { return op{what: "fuse", a: calls} }
func crash(calls, bytes int) op   { return op{what: "crash", a: calls, b: bytes} }
func file(name, data string) op   { return op{what: "file " + name, text: data} }
func removed(name string) op      { return op{what: "removed " + name} }
func alter(name string, a int) op { return op{what: "alter " + name, a: a, b: 0x40} }

func (o op) String() string { return fmt.Sprintf("%s %.20q %d %d %d", o.what, o.text, o.n, o.a, o.b) }

// onDisk does to a disk what is not the log's doing.
func (o op) onDisk(d *disk.Disk) api.Errno {
	what, name, _ := strings.Cut(o.what, " ")
	switch what {
	case "fuse":
		return d.Fuse(o.a)
	case "crash":
		return d.Crash(o.a, o.b)
	case "file":
		return d.Append(name, o.text)
	case "removed":
		return d.Remove(name)
	}
	return d.Alter(name, o.a, byte(o.b))
}

// onLog does it to a log; false if it is no log's.
func (o op) onLog(w *wal.Wal) (api.Errno, bool) {
	switch o.what {
	case "append":
		return w.Append(o.text), true
	case "sync":
		return w.Sync(), true
	case "cut":
		return w.Cut(o.n), true
	case "trim":
		return w.Trim(o.n), true
	case "reset":
		return w.Reset(o.n), true
	}
	return api.OK, false
}

// onModel is onLog by the chapter.
func (o op) onModel(m *model) api.Errno {
	if !m.open {
		return api.ErrNil
	}
	if m.down {
		return api.ErrState
	}
	switch o.what {
	case "append":
		return m.append(o.text)
	case "sync":
		return m.perform(m.sync())
	case "cut":
		return m.cut(o.n)
	case "trim":
		return m.trim(o.n)
	}
	return m.reset(o.n)
}

// pair is a log, and the chapter's.
type pair struct {
	d *disk.Disk
	w *wal.Wal
	m *model
}

func newDisk(t *testing.T, room int) *disk.Disk {
	t.Helper()
	d, err := disk.New(room)
	if err != api.OK {
		t.Fatalf("New(%d): %d", room, err)
	}
	return d
}

func newPair(t *testing.T, room int) *pair {
	t.Helper()
	return &pair{d: newDisk(t, room), m: &model{d: newDisk(t, room)}}
}

func (p *pair) reopen(t *testing.T, size int) {
	t.Helper()
	w, kept, err := wal.Open(p.d, size)
	want := p.m.start(size)
	p.w = w
	first, records := uint64(0), []string(nil)
	if want == api.OK {
		first, records = p.m.first(), p.m.records()
	}
	if err != want || (w == nil) != (err != api.OK) || kept.First != first || !slices.Equal(kept.Records, records) {
		t.Errorf("Open(%d): %d, %.20q, %d, not %d, %.20q, %d", size, kept.First, kept.Records, err, first, records, want)
	}
}

// check holds all that can be asked to the chapter's.
func (p *pair) check(t *testing.T) {
	t.Helper()
	var first, next uint64
	var numbers []uint64
	if p.m.open {
		first, next = p.m.first(), p.m.next()
		for _, s := range p.m.segs {
			numbers = append(numbers, s.first)
		}
	}
	if p.w.First() != first || p.w.Next() != next || !slices.Equal(p.w.Segments(), numbers) {
		t.Errorf("First, Next, Segments: %d, %d, %d, not %d, %d, %d", p.w.First(), p.w.Next(), p.w.Segments(), first, next, numbers)
	}
	checkSame(t, p.d, p.m.d)
}

// checkSame holds one disk to another.
func checkSame(t *testing.T, d, want *disk.Disk) {
	t.Helper()
	if !slices.Equal(d.Names(), want.Names()) || d.Left() != want.Left() || d.Loose() != want.Loose() {
		t.Errorf("files %q, %d left, %d loose, not %q, %d, %d", d.Names(), d.Left(), d.Loose(), want.Names(), want.Left(), want.Loose())
	}
	for _, name := range want.Names() {
		got, err := d.Read(name)
		if data, is := want.Read(name); got != data || err != is {
			t.Errorf("%s: %.80q, %d, not %.80q, %d", name, got, err, data, is)
		}
	}
}

// do has both do all, and checks them behind each; it tells the last answer.
func (p *pair) do(t *testing.T, ops ...op) api.Errno {
	t.Helper()
	last := api.OK
	for i, o := range ops {
		if o.what == "open" {
			p.reopen(t, o.a)
		} else if err, is := o.onLog(p.w); is {
			if want := o.onModel(p.m); err != want {
				t.Errorf("%v: %d, not %d", o, err, want)
			}
			last = err
		} else if last = o.onDisk(p.d); last != o.onDisk(p.m.d) {
			t.Errorf("%v: the disks differ", o)
		}
		p.check(t)
		if t.Failed() {
			t.Fatalf("behind op %d of %.2000v", i, ops)
		}
	}
	return last
}

// run is do on a new pair, with a log that is open.
func run(t *testing.T, room, size int, ops ...op) *pair {
	t.Helper()
	p := newPair(t, room)
	p.do(t, openWith(size))
	p.do(t, ops...)
	return p
}

// mixed answers n bytes that look like nothing in particular.
func mixed(n int, seed uint32) string {
	b := make([]byte, n)
	for i := range b {
		seed = seed*1664525 + 1013904223
		b[i] = byte(seed >> 24)
	}
	return string(b)
}

// unmade has the logs that Open did not make.
func unmade() []*wal.Wal {
	return []*wal.Wal{nil, {}, new(wal.Wal)}
}

// checkOpen opens what a disk has, which must be answered so.
func checkOpen(t *testing.T, d *disk.Disk, size int, first uint64, records ...string) *wal.Wal {
	t.Helper()
	w, kept, err := wal.Open(d, size)
	if w == nil || err != api.OK || kept.First != first || !slices.Equal(kept.Records, records) {
		t.Fatalf("Open(%d): %d, %.40q, %d, not %d, %.40q", size, kept.First, kept.Records, err, first, records)
	}
	if w.First() != first || w.Next() != first+uint64(len(records)) {
		t.Fatalf("behind Open: First %d, Next %d, not %d and %d records", w.First(), w.Next(), first, len(records))
	}
	return w
}

// checkRefused has Open fail, and answer nothing beside it.
func checkRefused(t *testing.T, d *disk.Disk, size int, want api.Errno) {
	t.Helper()
	if w, kept, err := wal.Open(d, size); w != nil || kept.First != 0 || len(kept.Records) != 0 || err != want {
		t.Errorf("Open(%d): %v, %d, %.20q, %d, not %d", size, w, kept.First, kept.Records, err, want)
	}
}

// checkErr holds an answer.
func checkErr(t *testing.T, what string, got, want api.Errno) {
	t.Helper()
	if got != want {
		t.Errorf("%s: %d, not %d", what, got, want)
	}
}

// checkLog holds what a log tells of itself.
func checkLog(t *testing.T, w *wal.Wal, first, next uint64, numbers ...uint64) {
	t.Helper()
	if w.First() != first || w.Next() != next || !slices.Equal(w.Segments(), numbers) {
		t.Errorf("First %d, Next %d, Segments %d, not %d, %d, %d", w.First(), w.Next(), w.Segments(), first, next, numbers)
	}
}

// files is what a disk has, by names.
type files = map[string]string

// checkFiles holds a disk to its files.
func checkFiles(t *testing.T, d *disk.Disk, want files) {
	t.Helper()
	if len(d.Names()) != len(want) {
		t.Errorf("files %q, not %d", d.Names(), len(want))
	}
	for name, data := range want {
		if got, err := d.Read(name); got != data || err != api.OK {
			t.Errorf("%s: %.60q, %d, not %.60q", name, got, err, data)
		}
	}
}

// diskOf is a disk with these files, all synced.
func diskOf(t *testing.T, room int, has files) *disk.Disk {
	t.Helper()
	d := newDisk(t, room)
	for name, data := range has {
		checkErr(t, "Append "+name, d.Append(name, data), api.OK)
	}
	checkErr(t, "Sync", d.Sync(), api.OK)
	return d
}
