package wal

import (
	"slices"
	"strconv"
	"strings"

	"codicil/api"
	"codicil/disk"
)

// kind is what the names of some files begin with; a number follows.
type kind string

const (
	ofSegment kind = "wal-"
	ofMark    kind = "reset-"
)

const (
	digits     = 16 // of a number in a name
	digitBase  = 16
	numberBits = 64
)

// isIndex tells whether a record may have the number.
func isIndex(number uint64) bool {
	return 1 <= number && number <= api.MaxIndex
}

// file is the name with the number.
func (k kind) file(number uint64) string {
	hex := strconv.FormatUint(number, digitBase)
	return string(k) + strings.Repeat("0", digits-len(hex)) + hex
}

// number is that of the name, unless the name is not one that file makes for some record.
func (k kind) number(name string) (uint64, bool) {
	n, err := strconv.ParseUint(strings.TrimPrefix(name, string(k)), digitBase, numberBits)
	if err != nil || !isIndex(n) || k.file(n) != name {
		return 0, false
	}
	return n, true
}

// lacks tells whether the name begins otherwise.
func (k kind) lacks(name string) bool {
	return !strings.HasPrefix(name, string(k))
}

// files has all names that begin so, in order, be there a number behind or not.
func (k kind) files(d *disk.Disk) []string {
	return slices.DeleteFunc(d.Names(), k.lacks)
}

// numbers are those of the names, unless one of them has none.
func (k kind) numbers(names []string) ([]uint64, bool) {
	var all []uint64
	for _, name := range names {
		n, is := k.number(name)
		if !is {
			return nil, false
		}
		all = append(all, n)
	}
	return all, true
}
