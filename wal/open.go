package wal

import (
	"slices"

	"codicil/api"
	"codicil/disk"
	"codicil/seg"
)

// Open finds the log that a disk has, or begins one; a segment with at least size bytes is full.
func Open(d *disk.Disk, size int) (*Wal, api.WalKept, api.Errno) {
	if !made(d) {
		return nil, api.WalKept{}, api.ErrNil
	}
	if size < 1 || size > api.MaxSegment {
		return nil, api.WalKept{}, api.ErrArg
	}
	w := &Wal{disk: d, size: size}
	records, err := w.load()
	if err != api.OK {
		return nil, api.WalKept{}, err
	}
	return w, api.WalKept{First: w.First(), Records: records}, api.OK
}

// made tells whether d is a disk. Any name would do: a disk that is none knows no other answer.
func made(d *disk.Disk) bool {
	_, err := d.Read("")
	return err != api.ErrNil
}

// load has the log as its disk has it, and tells its records.
func (w *Wal) load() ([]string, api.Errno) {
	if err := endReset(w.disk); err != api.OK {
		return nil, err
	}
	numbers, err := begun(w.disk)
	if err != api.OK {
		return nil, err
	}
	records, torn, err := w.scan(numbers)
	if err == api.OK && torn {
		err = w.truncate(len(w.last().ends))
	}
	return records, err
}

// endReset does what is left of a Reset that was begun.
func endReset(d *disk.Disk) api.Errno {
	marks, are := ofMark.numbers(ofMark.files(d))
	switch {
	case !are || len(marks) > 1:
		return api.ErrBad
	case len(marks) == 0:
		return api.OK
	}
	return replace(d, ofSegment.files(d), marks[0])
}

// replace removes files, the last one first, and makes the mark of a number the segment. Till all are gone there is the mark, which has a crash in the midst of it begun again.
func replace(d *disk.Disk, files []string, first uint64) api.Errno {
	for _, name := range slices.Backward(files) {
		if err := d.Remove(name); err != api.OK {
			return err
		}
	}
	if err := d.Rename(ofMark.file(first), ofSegment.file(first)); err != api.OK {
		return err
	}
	return d.Sync()
}

// begun tells the numbers of all segments; if there is none, one is created.
func begun(d *disk.Disk) ([]uint64, api.Errno) {
	numbers, are := ofSegment.numbers(ofSegment.files(d))
	switch {
	case !are:
		return nil, api.ErrBad
	case len(numbers) > 0:
		return numbers, api.OK
	}
	if err := d.Append(ofSegment.file(1), ""); err != api.OK {
		return nil, err
	}
	return []uint64{1}, d.Sync()
}

// scan takes the segments of these numbers for the log's, and tells their records, and whether the end of the last one is torn.
func (w *Wal) scan(numbers []uint64) (records []string, torn bool, err api.Errno) {
	for _, first := range numbers {
		if torn || len(w.segments) > 0 && first != w.Next() {
			return nil, false, api.ErrBad
		}
		text, err := w.disk.Read(ofSegment.file(first))
		if err != api.OK {
			return nil, false, err
		}
		more, _, fault := seg.Scan(text)
		if fault != api.OK && fault != api.ErrTorn {
			return nil, false, api.ErrBad
		}
		w.segments = append(w.segments, segmentOf(first, more))
		records, torn = append(records, more...), fault == api.ErrTorn
	}
	if w.Next() > api.MaxIndex {
		return nil, false, api.ErrBad
	}
	return records, torn, api.OK
}
