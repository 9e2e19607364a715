package wire

import (
	"strings"

	"codicil/api"
)

// Reader is what is left of some bytes, and the first fault that was found.
type Reader struct {
	made  bool // by New
	left  string
	fault api.Errno
}

func New(s string) *Reader {
	return &Reader{made: true, left: s}
}

func (r *Reader) Uint(most uint64) (x uint64) {
	r.read(func(left string) (rest string, fault api.Errno) {
		x, rest, fault = numberUpTo(left, most)
		return rest, fault
	})
	return x
}

func (r *Reader) Text(most int) (s string) {
	r.read(func(left string) (rest string, fault api.Errno) {
		s, rest, fault = text(left, most)
		return rest, fault
	})
	return s
}

func (r *Reader) Bool() (is bool) {
	r.read(func(left string) (rest string, fault api.Errno) {
		is, rest, fault = boolean(left)
		return rest, fault
	})
	return is
}

func (r *Reader) Count(most int) (n int) {
	r.read(func(left string) (rest string, fault api.Errno) {
		n, rest, fault = count(left, most)
		return rest, fault
	})
	return n
}

func (r *Reader) Texts(most, each int) (l []string) {
	r.read(func(left string) (rest string, fault api.Errno) {
		l, rest, fault = texts(left, most, each)
		return rest, fault
	})
	return l
}

func (r *Reader) Left() int {
	if r == nil {
		return 0
	}
	return len(r.left)
}

func (r *Reader) Err() api.Errno {
	if r == nil || !r.made {
		return api.ErrNil
	}
	return r.fault
}

func (r *Reader) End() api.Errno {
	r.read(func(left string) (string, api.Errno) {
		if left != "" {
			return "", api.ErrForm
		}
		return "", api.OK
	})
	return r.Err()
}

// read alone changes a reader: part gets what is left, and answers what is left behind it, or a fault.
func (r *Reader) read(part func(left string) (string, api.Errno)) {
	if r.Err() != api.OK {
		return
	}
	rest, fault := part(r.left)
	if fault != api.OK {
		r.fault = fault
		return
	}
	r.left = rest
}

// number answers the number at the beginning of s, and what stands behind it.
func number(s string) (uint64, string, api.Errno) {
	if s == "" {
		return 0, "", api.ErrForm
	}
	first, rest := s[0], s[1:]
	if first <= mostShort {
		return uint64(first), rest, api.OK
	}
	length := int(first) - mostShort
	if length > len(rest) || rest[0] == 0 {
		return 0, "", api.ErrForm
	}
	x := uint64(0)
	for i := range length {
		x = x<<byteBits | uint64(rest[i])
	}
	if x <= mostShort {
		return 0, "", api.ErrForm
	}
	return x, rest[length:], api.OK
}

func numberUpTo(s string, most uint64) (uint64, string, api.Errno) {
	x, rest, fault := number(s)
	if fault != api.OK {
		return 0, "", fault
	}
	if x > most {
		return 0, "", api.ErrOver
	}
	return x, rest, api.OK
}

func boolean(s string) (bool, string, api.Errno) {
	if s == "" || s[0] > 1 {
		return false, "", api.ErrForm
	}
	return s[0] == 1, s[1:], api.OK
}

// count answers the number at the beginning of s, of things that take a byte at least each.
func count(s string, most int) (int, string, api.Errno) {
	n, rest, fault := number(s)
	if fault != api.OK {
		return 0, "", fault
	}
	if most < 0 || n > uint64(most) {
		return 0, "", api.ErrLong
	}
	if n > uint64(len(rest)) {
		return 0, "", api.ErrForm
	}
	return int(n), rest, api.OK
}

// text: its length is a count of bytes.
func text(s string, most int) (string, string, api.Errno) {
	n, rest, fault := count(s, most)
	if fault != api.OK {
		return "", "", fault
	}
	return strings.Clone(rest[:n]), rest[n:], api.OK // a piece would keep the whole text
}

// texts makes no room ahead: what is told to be many may turn out to be few.
func texts(s string, most, each int) ([]string, string, api.Errno) {
	n, rest, fault := count(s, most)
	if fault != api.OK {
		return nil, "", fault
	}
	var list []string
	for range n {
		var item string
		item, rest, fault = text(rest, each)
		if fault != api.OK {
			return nil, "", fault
		}
		list = append(list, item)
	}
	return list, rest, api.OK
}
