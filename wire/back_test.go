package wire_test

import (
	"math"
	"slices"
	"strings"
	"testing"

	"codicil/api"
	"codicil/wire"
)

// part is something that is encoded: its bytes, and whether a reader reads it back.
type part struct {
	name  string
	bytes string
	back  func(r *wire.Reader) bool
}

func numberPart(x uint64) part {
	return part{"a number", wire.Uint(x), func(r *wire.Reader) bool { return r.Uint(x) == x }}
}

func textPart(s string) part {
	return part{"a text", wire.Text(s), func(r *wire.Reader) bool { return r.Text(len(s)) == s }}
}

func boolPart(is bool) part {
	return part{"a boolean", wire.Bool(is), func(r *wire.Reader) bool { return r.Bool() == is }}
}

func textsPart(l []string) part {
	longest := 0
	for _, s := range l {
		longest = max(longest, len(s))
	}
	return part{"a list", wire.Texts(l), func(r *wire.Reader) bool { return slices.Equal(r.Texts(len(l), longest), l) }}
}

// countedPart is a list that is read piece by piece.
func countedPart(l []string) part {
	return part{"a counted list", wire.Texts(l), func(r *wire.Reader) bool {
		same := r.Count(len(l)) == len(l)
		for _, s := range l {
			same = r.Text(len(s)) == s && same
		}
		return same
	}}
}

func parts() []part {
	list := []part{boolPart(false), boolPart(true)}
	for _, x := range numbers() {
		list = append(list, numberPart(x))
	}
	for _, s := range texts() {
		list = append(list, textPart(s))
	}
	for _, l := range lists() {
		list = append(list, textsPart(l), countedPart(l))
	}
	return list
}

func joined(list []part) string {
	var s strings.Builder
	for _, p := range list {
		s.WriteString(p.bytes)
	}
	return s.String()
}

// checkBack reads the parts in order, out of all their bytes.
func checkBack(t *testing.T, list []part) {
	t.Helper()
	s := joined(list)
	r, left := wire.New(s), len(s)
	for i, p := range list {
		if !p.back(r) {
			t.Errorf("part %d of %d, %s (%s): something else comes back", i, len(list), p.name, laidName(p.bytes))
		}
		left -= len(p.bytes)
		checkState(t, p.name, r, left, api.OK)
	}
	if r.End() != api.OK || left != 0 {
		t.Errorf("behind %d parts: %d, and %d bytes are left", len(list), r.End(), left)
	}
}

func TestP5_5Each(t *testing.T) {
	checkBack(t, nil)
	for _, p := range parts() {
		checkBack(t, []part{p})
		checkBack(t, []part{p, p})
	}
}

func TestP5_5All(t *testing.T) {
	list := parts()
	checkBack(t, list)
	slices.Reverse(list)
	checkBack(t, list)
}

func TestP5_5Mixed(t *testing.T) {
	list := parts()
	list = slices.DeleteFunc(list, func(p part) bool { return len(p.bytes) > 3000 })
	for i := range 1000 {
		var some []part
		for _, c := range []byte(mixed(2+i%40, uint32(i))) {
			some = append(some, list[(int(c)*1031+i*7)%len(list)])
		}
		checkBack(t, some)
	}
}

// What is cut off anywhere is read back up to there, and then there is a fault.
func TestP5_5Cut(t *testing.T) {
	list := []part{numberPart(5), textPart("abc"), numberPart(70000), boolPart(true), textsPart([]string{"", "x", "yz"}), textPart(""), numberPart(math.MaxUint64), textPart(mixed(250, 3)), boolPart(false)}
	s := joined(list)
	for n := range s {
		r, left, whole := wire.New(s[:n]), n, true
		for _, p := range list {
			whole = whole && left >= len(p.bytes)
			back := p.back(r)
			if whole {
				left -= len(p.bytes)
				if !back {
					t.Errorf("cut at %d: %s does not come back", n, p.name)
				}
			}
		}
		checkState(t, "what was cut", r, left, api.ErrForm)
	}
}

// checkForm holds the bytes that were read, of s, to being the encoding of what was answered.
func checkForm(t *testing.T, name, s string, r *wire.Reader, encoding string) bool {
	t.Helper()
	if r.Err() != api.OK {
		return false
	}
	if read := s[:len(s)-r.Left()]; read != encoding {
		t.Errorf("%s: %s is read, and encoded as %s", name, laidName(read), laidName(encoding))
	}
	return true
}

// forms tells how many of the calls find something at the front of s.
func forms(t *testing.T, s string) int {
	t.Helper()
	found := 0
	for _, encoding := range []func(r *wire.Reader) string{
		func(r *wire.Reader) string { return wire.Uint(r.Uint(math.MaxUint64)) },
		func(r *wire.Reader) string { return wire.Bool(r.Bool()) },
		func(r *wire.Reader) string { return wire.Text(r.Text(math.MaxInt)) },
		func(r *wire.Reader) string { return wire.Uint(uint64(r.Count(math.MaxInt))) },
		func(r *wire.Reader) string { return wire.Texts(r.Texts(math.MaxInt, math.MaxInt)) },
	} {
		r := wire.New(s)
		again := encoding(r)
		if checkForm(t, "what is read", s, r, again) {
			found++
		}
	}
	return found
}

// Whatever bytes are read, they are what is written for the answer.
func TestP5_5Forms(t *testing.T) {
	found := 0
	short(5, "", func(s string) { found += forms(t, s) })
	for i := range 256 {
		for j := range 256 {
			found += forms(t, string([]byte{byte(i), byte(j)}))
			found += forms(t, string([]byte{byte(i), byte(j)})+mixed(260, uint32(i)))
		}
	}
	for i := range 3000 {
		found += forms(t, string([]byte{byte(248 + i%8)})+mixed(12, uint32(i)))
		found += forms(t, string([]byte{byte(248 + i%8), 0})+mixed(12, uint32(i)))
	}
	if found < 100000 {
		t.Errorf("only %d are read", found)
	}
}

// No number's bytes are the beginning of another one's: else what follows could be read in two ways.
func TestP5_5NoBeginning(t *testing.T) {
	list := numbers()
	for x := range uint64(600) {
		list = append(list, x)
	}
	for _, x := range list {
		for _, y := range list {
			if x != y && strings.HasPrefix(wire.Uint(y), wire.Uint(x)) {
				t.Errorf("%d begins as %d does", y, x)
			}
		}
	}
}
