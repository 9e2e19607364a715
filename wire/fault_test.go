package wire_test

import (
	"math"
	"testing"

	"codicil/api"
	"codicil/wire"
)

// checkZero holds each call that reads to what is answered once there is a fault, and to changing nothing.
func checkZero(t *testing.T, name string, r *wire.Reader, left int, fault api.Errno) {
	t.Helper()
	for _, most := range []int{math.MinInt, -1, 0, 1, 300, math.MaxInt} {
		if x := r.Uint(uint64(most)); x != 0 {
			t.Errorf("%s: Uint(%d) is %d", name, most, x)
		}
		if s := r.Text(most); s != "" {
			t.Errorf("%s: Text(%d) is %q", name, most, s)
		}
		if n := r.Count(most); n != 0 {
			t.Errorf("%s: Count(%d) is %d", name, most, n)
		}
		if l := r.Texts(most, most); len(l) != 0 {
			t.Errorf("%s: Texts(%d, %d) is %q", name, most, most, l)
		}
		if r.Bool() {
			t.Errorf("%s: Bool is true", name)
		}
		if end := r.End(); end != fault {
			t.Errorf("%s: End is %d, not %d", name, end, fault)
		}
		checkState(t, name, r, left, fault)
	}
}

// finding is a call that finds a fault at the front of s, and so reads nothing.
type finding struct {
	name  string
	s     string
	call  func(r *wire.Reader)
	fault api.Errno
}

func faults() []finding {
	return []finding{
		{"no byte for a number", "", func(r *wire.Reader) { r.Uint(5) }, api.ErrForm},
		{"a number that is too wide", "\xf8\x01\x01\x01", func(r *wire.Reader) { r.Uint(5) }, api.ErrForm},
		{"a number that ends too early", "\xf9\x01", func(r *wire.Reader) { r.Uint(5) }, api.ErrForm},
		{"a number that is too great", "\x01\x01\x01", func(r *wire.Reader) { r.Uint(0) }, api.ErrOver},
		{"no byte for a boolean", "", func(r *wire.Reader) { r.Bool() }, api.ErrForm},
		{"no boolean", "\x02\x01\x01", func(r *wire.Reader) { r.Bool() }, api.ErrForm},
		{"a text that is too long", "\x02\x01\x01", func(r *wire.Reader) { r.Text(1) }, api.ErrLong},
		{"a text that ends too early", "\x03\x01\x01", func(r *wire.Reader) { r.Text(3) }, api.ErrForm},
		{"a text without a length", "\xf8\x00\x01", func(r *wire.Reader) { r.Text(3) }, api.ErrForm},
		{"a bound that no text meets", "\x00\x01\x01", func(r *wire.Reader) { r.Text(-1) }, api.ErrLong},
		{"a count that is too great", "\x01\x01\x01", func(r *wire.Reader) { r.Count(0) }, api.ErrLong},
		{"a count of what is not there", "\x03\x01\x01", func(r *wire.Reader) { r.Count(3) }, api.ErrForm},
		{"no count", "\xff\x01\x01", func(r *wire.Reader) { r.Count(3) }, api.ErrForm},
		{"a list that is too long", "\x01\x01\x01", func(r *wire.Reader) { r.Texts(0, 1) }, api.ErrLong},
		{"a list with too long a text", "\x01\x01\x01", func(r *wire.Reader) { r.Texts(1, 0) }, api.ErrLong},
		{"a list whose second text is too long", "\x02\x01\x01\x02\x01\x01", func(r *wire.Reader) { r.Texts(2, 1) }, api.ErrLong},
		{"a list whose second text ends too early", "\x02\x01\x01\x02\x01", func(r *wire.Reader) { r.Texts(2, 2) }, api.ErrForm},
		{"a list without its second text", "\x02\x01\x01", func(r *wire.Reader) { r.Texts(2, 2) }, api.ErrForm},
		{"bytes at the end", "\x01\x01\x01", func(r *wire.Reader) { r.End() }, api.ErrForm},
		{"a byte at the end", "\x00", func(r *wire.Reader) { r.End() }, api.ErrForm},
	}
}

func TestP5_4Fault(t *testing.T) {
	for _, c := range faults() {
		r := wire.New(c.s)
		c.call(r)
		checkState(t, c.name, r, len(c.s), c.fault)
		checkZero(t, c.name, r, len(c.s), c.fault)
	}
}

// A fault behind what was read.
func TestP5_4FaultLater(t *testing.T) {
	for _, c := range faults() {
		r := wire.New("\x05\x01\x02ab\x02\x02\x00\x01x" + c.s)
		if r.Uint(5) != 5 || !r.Bool() || r.Text(2) != "ab" || r.Count(2) != 2 || len(r.Texts(2, 1)) != 2 {
			t.Errorf("ahead of %s: something else is read", c.name)
		}
		checkState(t, "ahead of "+c.name, r, len(c.s), api.OK)
		c.call(r)
		checkState(t, c.name, r, len(c.s), c.fault)
		checkZero(t, c.name, r, len(c.s), c.fault)
	}
}

// The first fault remains, whichever the second would be.
func TestP5_4FirstFault(t *testing.T) {
	for _, c := range faults() {
		for _, second := range faults() {
			r := wire.New(c.s)
			c.call(r)
			second.call(r)
			checkState(t, c.name+", then "+second.name, r, len(c.s), c.fault)
		}
	}
}

// A fault of one reader is none of another one.
func TestP5_4Others(t *testing.T) {
	a, b := wire.New("\x02"), wire.New("\x02")
	a.Bool()
	if b.Uint(2) != 2 || b.End() != api.OK {
		t.Error("a reader has another one's fault")
	}
	checkState(t, "the faulty one", a, 1, api.ErrForm)
}

func TestP5_4Left(t *testing.T) {
	r := wire.New("\x05\xf8\xf8\x00\x03abc\x02\x01x\x00\x01z")
	for _, c := range []struct {
		name string
		call func()
		left int
	}{
		{"New", func() {}, 14},
		{"a short number", func() { r.Uint(5) }, 13},
		{"a long number", func() { r.Uint(248) }, 11},
		{"a boolean", func() { r.Bool() }, 10},
		{"a text", func() { r.Text(3) }, 6},
		{"a list", func() { r.Texts(2, 1) }, 2},
		{"a count", func() { r.Count(1) }, 1},
		{"a fault", func() { r.Uint(1) }, 1},
		{"the end", func() { r.End() }, 1},
	} {
		c.call()
		if r.Left() != c.left || r.Left() != c.left {
			t.Errorf("behind %s: %d left, not %d", c.name, r.Left(), c.left)
		}
	}
}

func TestP5_4End(t *testing.T) {
	r := wire.New("")
	for range 3 {
		if r.End() != api.OK {
			t.Error("End of no bytes is no OK")
		}
		checkState(t, "the end of no bytes", r, 0, api.OK)
	}
	r.Uint(0)
	if r.End() != api.ErrForm || r.Err() != api.ErrForm {
		t.Error("End is OK behind a number that is not there")
	}
	r = wire.New("\x07")
	if r.Uint(7) != 7 || r.End() != api.OK || r.Err() != api.OK {
		t.Error("End is not OK where nothing is left")
	}
	r = wire.New("\x07\x07")
	if r.Uint(7) != 7 || r.End() != api.ErrForm || r.Uint(7) != 0 {
		t.Error("bytes that are left at the end are no fault")
	}
	checkState(t, "a byte at the end", r, 1, api.ErrForm)
	r = wire.New("\x07\x07")
	if r.Uint(7) != 7 || r.Uint(6) != 0 || r.End() != api.ErrOver || r.End() != api.ErrOver {
		t.Error("End has another fault than the first one")
	}
	checkState(t, "a number that is too great", r, 1, api.ErrOver)
}

func TestP5_4None(t *testing.T) {
	var none *wire.Reader
	checkZero(t, "no reader", none, 0, api.ErrNil)
	checkZero(t, "a reader that nobody made", new(wire.Reader), 0, api.ErrNil)
	for range 2 {
		r := &wire.Reader{}
		if r.End() != api.ErrNil || r.Err() != api.ErrNil || r.Left() != 0 {
			t.Error("a reader that nobody made has another fault")
		}
	}
}
