package wire_test

import (
	"math"
	"math/big"
	"slices"
	"strings"
	"testing"

	"codicil/api"
	"codicil/wire"
)

// found is the chapter's definition of what is read: a number at the front of s, and how many bytes it has (0: none is there).
func found(s string) (uint64, int) {
	for n := 1; n <= min(9, len(s)); n++ {
		x := uint64(s[0])
		if n > 1 {
			x = new(big.Int).SetBytes([]byte(s[1:n])).Uint64()
		}
		if laid(x) == s[:n] {
			return x, n
		}
	}
	return 0, 0
}

// checkState holds what a reader tells of itself.
func checkState(t *testing.T, name string, r *wire.Reader, left int, fault api.Errno) {
	t.Helper()
	if r.Left() != left || r.Err() != fault {
		t.Errorf("%s: %d left, fault %d, not %d and %d", name, r.Left(), r.Err(), left, fault)
	}
}

// checkUint has a number read from s: x, of n bytes, or a fault.
func checkUint(t *testing.T, s string, most, x uint64, n int, fault api.Errno) {
	t.Helper()
	r := wire.New(s)
	if got := r.Uint(most); got != x {
		t.Errorf("Uint(%d) of %x: %d, not %d", most, s, got, x)
	}
	checkState(t, "Uint of "+laidName(s), r, len(s)-n, fault)
}

func laidName(s string) string {
	const digits = "0123456789abcdef"
	var name []byte
	for i := range min(len(s), 20) {
		name = append(name, digits[s[i]>>4], digits[s[i]&15])
	}
	return string(name)
}

// checkUintDefined holds Uint against the definition, with bounds around the number.
func checkUintDefined(t *testing.T, s string) {
	t.Helper()
	x, n := found(s)
	if n == 0 {
		checkUint(t, s, 0, 0, 0, api.ErrForm)
		checkUint(t, s, math.MaxUint64, 0, 0, api.ErrForm)
		return
	}
	checkUint(t, s, math.MaxUint64, x, n, api.OK)
	checkUint(t, s, x, x, n, api.OK)
	if x < math.MaxUint64 {
		checkUint(t, s, x+1, x, n, api.OK)
	}
	if x > 0 {
		checkUint(t, s, x-1, 0, 0, api.ErrOver)
		checkUint(t, s, 0, 0, 0, api.ErrOver)
	}
}

func TestP5_2New(t *testing.T) {
	for _, s := range []string{"", "\x00", "a", "\xff", "\xf8", mixed(1000, 1)} {
		checkState(t, "a new reader", wire.New(s), len(s), api.OK)
	}
	a, b := wire.New("\x01\x02"), wire.New("\x01\x02")
	if a.Uint(9) != 1 || a.Uint(9) != 2 || b.Uint(9) != 1 {
		t.Error("two readers of one text do not read it each")
	}
	checkState(t, "the one", a, 0, api.OK)
	checkState(t, "the other one", b, 1, api.OK)
}

func TestP5_2UintKnown(t *testing.T) {
	most := uint64(math.MaxUint64)
	for _, c := range []struct {
		s     string
		most  uint64
		x     uint64
		n     int
		fault api.Errno
	}{
		{"\x00", 0, 0, 1, api.OK},
		{"\x00\x00", 0, 0, 1, api.OK},
		{"\xf7", most, 247, 1, api.OK},
		{"\xf7\xf7", 247, 247, 1, api.OK},
		{"\xf7", 246, 0, 0, api.ErrOver},
		{"\xf8\xf8", most, 248, 2, api.OK},
		{"\xf8\xf8\xf8", 248, 248, 2, api.OK},
		{"\xf8\xf8", 247, 0, 0, api.ErrOver},
		{"\xf9\xff\xff", 65535, 65535, 3, api.OK},
		{"\xf9\xff\xff", 65534, 0, 0, api.ErrOver},
		{"\xff\xff\xff\xff\xff\xff\xff\xff\xff", most, most, 9, api.OK},
		{"\xff\xff\xff\xff\xff\xff\xff\xff\xff", most - 1, 0, 0, api.ErrOver},
		{"\xff\xff\xff\xff\xff\xff\xff\xff\xff", 0, 0, 0, api.ErrOver},
		{"", most, 0, 0, api.ErrForm},
		{"", 0, 0, 0, api.ErrForm},
		{"\xf8", most, 0, 0, api.ErrForm},
		{"\xf8\x07", most, 0, 0, api.ErrForm},
		{"\xf8\x07", 0, 0, 0, api.ErrForm},
		{"\xf8\xf7", most, 0, 0, api.ErrForm},
		{"\xf8\x00", most, 0, 0, api.ErrForm},
		{"\xf9\x00\xff", most, 0, 0, api.ErrForm},
		{"\xf9\x00\xff", 0, 0, 0, api.ErrForm},
		{"\xf9\x00\x00", most, 0, 0, api.ErrForm},
		{"\xf9\xff", most, 0, 0, api.ErrForm},
		{"\xf9\xff", 0, 0, 0, api.ErrForm},
		{"\xff\xff\xff\xff\xff\xff\xff\xff", most, 0, 0, api.ErrForm},
		{"\xff\x00\xff\xff\xff\xff\xff\xff\xff", most, 0, 0, api.ErrForm},
	} {
		checkUint(t, c.s, c.most, c.x, c.n, c.fault)
	}
}

// All texts of one byte and of two, and those of three whose first byte is no number.
func TestP5_2UintShort(t *testing.T) {
	for i := range 256 {
		checkUintDefined(t, string([]byte{byte(i)}))
		for j := range 256 {
			checkUintDefined(t, string([]byte{byte(i), byte(j)}))
			for k := range 256 {
				if i >= 248 {
					checkUintDefined(t, string([]byte{byte(i), byte(j), byte(k)}))
				}
			}
		}
	}
}

// A number with something behind it, and without its last bytes.
func TestP5_2UintCut(t *testing.T) {
	for _, x := range numbers() {
		s := laid(x)
		for _, behind := range []string{"", "\x00", "\xff", s, "\x00\x00\x00\x00\x00\x00\x00\x00\x00"} {
			checkUintDefined(t, s+behind)
		}
		for n := range s {
			checkUint(t, s[:n], math.MaxUint64, 0, 0, api.ErrForm)
			checkUint(t, s[:n], 0, 0, 0, api.ErrForm)
		}
	}
}

// Each number in more bytes than it needs.
func TestP5_2UintWide(t *testing.T) {
	for _, x := range numbers() {
		b := new(big.Int).SetUint64(x).Bytes()
		for n := len(b); n <= 8; n++ {
			s := string([]byte{byte(247 + n)}) + strings.Repeat("\x00", n-len(b)) + string(b)
			if n == 0 || s == laid(x) {
				continue
			}
			for _, most := range []uint64{0, x, math.MaxUint64} {
				checkUint(t, s, most, 0, 0, api.ErrForm)
				checkUint(t, s+"\x01", most, 0, 0, api.ErrForm)
			}
		}
	}
}

// Any bytes, with one of the greater ones as the first.
func TestP5_2UintMixed(t *testing.T) {
	for i := range 20000 {
		s := mixed(11, uint32(i))
		checkUintDefined(t, s)
		checkUintDefined(t, string([]byte{byte(248 + i%8)})+s)
		checkUintDefined(t, string([]byte{byte(248 + i%8), byte(i / 8 % 3)})+s)
	}
}

func checkBool(t *testing.T, s string, is bool, n int, fault api.Errno) {
	t.Helper()
	r := wire.New(s)
	if got := r.Bool(); got != is {
		t.Errorf("Bool of %x: %v", s, got)
	}
	checkState(t, "Bool of "+laidName(s), r, len(s)-n, fault)
}

func TestP5_2Bool(t *testing.T) {
	checkBool(t, "", false, 0, api.ErrForm)
	for _, behind := range []string{"", "\x00", "\x01", "\x02", "\xff", "abc"} {
		checkBool(t, "\x00"+behind, false, 1, api.OK)
		checkBool(t, "\x01"+behind, true, 1, api.OK)
		for i := 2; i < 256; i++ {
			checkBool(t, string([]byte{byte(i)})+behind, false, 0, api.ErrForm)
		}
	}
	checkBool(t, "\xf8\x01", false, 0, api.ErrForm)
	checkBool(t, "\xf8\x00", false, 0, api.ErrForm)
}

// foundCount, foundText and foundTexts are the chapter's definition of what is read, of how many bytes, or of a fault.
func foundCount(s string, most int) (int, int, api.Errno) {
	x, n := found(s)
	switch {
	case n == 0:
		return 0, 0, api.ErrForm
	case most < 0 || new(big.Int).SetUint64(x).Cmp(big.NewInt(int64(most))) > 0:
		return 0, 0, api.ErrLong
	case int(x) > len(s)-n:
		return 0, 0, api.ErrForm
	}
	return int(x), n, api.OK
}

func foundText(s string, most int) (string, int, api.Errno) {
	length, n, fault := foundCount(s, most)
	if fault != api.OK {
		return "", 0, fault
	}
	return s[n : n+length], n + length, api.OK
}

func foundTexts(s string, most, each int) ([]string, int, api.Errno) {
	many, at, fault := foundCount(s, most)
	if fault != api.OK {
		return nil, 0, fault
	}
	var list []string
	for len(list) < many {
		item, n, fault := foundText(s[at:], each)
		if fault != api.OK {
			return nil, 0, fault
		}
		list, at = append(list, item), at+n
	}
	return list, at, api.OK
}

func checkCount(t *testing.T, s string, most, many, n int, fault api.Errno) {
	t.Helper()
	r := wire.New(s)
	if got := r.Count(most); got != many {
		t.Errorf("Count(%d) of %s: %d, not %d", most, laidName(s), got, many)
	}
	checkState(t, "Count of "+laidName(s), r, len(s)-n, fault)
}

func checkText(t *testing.T, s string, most int, want string, n int, fault api.Errno) {
	t.Helper()
	r := wire.New(s)
	if got := r.Text(most); got != want {
		t.Errorf("Text(%d) of %s: %s, not %s", most, laidName(s), laidName(got), laidName(want))
	}
	checkState(t, "Text of "+laidName(s), r, len(s)-n, fault)
}

func checkTexts(t *testing.T, s string, most, each int, want []string, n int, fault api.Errno) {
	t.Helper()
	r := wire.New(s)
	if got := r.Texts(most, each); !slices.Equal(got, want) {
		t.Errorf("Texts(%d, %d) of %s: %q, not %q", most, each, laidName(s), got, want)
	}
	checkState(t, "Texts of "+laidName(s), r, len(s)-n, fault)
}

// checkDefined holds all that reads a length against the definition.
func checkDefined(t *testing.T, s string, most int) {
	t.Helper()
	many, n, fault := foundCount(s, most)
	checkCount(t, s, most, many, n, fault)
	text, n, fault := foundText(s, most)
	checkText(t, s, most, text, n, fault)
	for _, each := range []int{-1, 0, 1, 2, math.MaxInt} {
		list, n, fault := foundTexts(s, most, each)
		checkTexts(t, s, most, each, list, n, fault)
	}
}

func TestP5_3TextKnown(t *testing.T) {
	for _, c := range []struct {
		s     string
		most  int
		want  string
		n     int
		fault api.Errno
	}{
		{"\x00", 0, "", 1, api.OK},
		{"\x00\x00", 5, "", 1, api.OK},
		{"\x00", -1, "", 0, api.ErrLong},
		{"\x00", math.MinInt, "", 0, api.ErrLong},
		{"\x03abc", 3, "abc", 4, api.OK},
		{"\x03abc", 2, "", 0, api.ErrLong},
		{"\x03abc", 0, "", 0, api.ErrLong},
		{"\x03abc", -3, "", 0, api.ErrLong},
		{"\x03abcd", 3, "abc", 4, api.OK},
		{"\x03abc", math.MaxInt, "abc", 4, api.OK},
		{"\x03ab", 3, "", 0, api.ErrForm},
		{"\x03", 3, "", 0, api.ErrForm},
		{"\x03ab", 2, "", 0, api.ErrLong},
		{"\x03ab", -1, "", 0, api.ErrLong},
		{"", 3, "", 0, api.ErrForm},
		{"", -1, "", 0, api.ErrForm},
		{"\xf8\x03abc", 3, "", 0, api.ErrForm},
		{"\xf8\x03abc", -1, "", 0, api.ErrForm},
		{"\xf9\x00\x03abc", 300, "", 0, api.ErrForm},
		{"\xf8", math.MinInt, "", 0, api.ErrForm},
		{"\xff\xff\xff\xff\xff\xff\xff\xff\xff", math.MaxInt, "", 0, api.ErrLong},
		{"\xff\xff\xff\xff\xff\xff\xff\xff\xffabc", -1, "", 0, api.ErrLong},
		{"\xff\xff\xff\xff\xff\xff\xff\xff\xfeabc", -2, "", 0, api.ErrLong},
		{"\xff\x80\x00\x00\x00\x00\x00\x00\x00abc", math.MaxInt, "", 0, api.ErrLong},
		{"\xff\x80\x00\x00\x00\x00\x00\x00\x00abc", math.MinInt, "", 0, api.ErrLong},
		{"\xff\x7f\xff\xff\xff\xff\xff\xff\xffabc", math.MaxInt, "", 0, api.ErrForm},
		{"\xff\x01\x00\x00\x00\x00\x00\x00\x03abc", math.MaxInt, "", 0, api.ErrForm},
		{"\xfc\x01\x00\x00\x00\x03abc", 3, "", 0, api.ErrLong},
	} {
		checkText(t, c.s, c.most, c.want, c.n, c.fault)
	}
}

// Each text, whole and without its last bytes, with bounds around its length.
func TestP5_3Text(t *testing.T) {
	for _, text := range texts() {
		s, length := laidText(text), len(text)
		for _, behind := range []string{"", "\x00", "more"} {
			checkText(t, s+behind, length, text, len(s), api.OK)
			checkText(t, s+behind, length+1, text, len(s), api.OK)
			checkText(t, s+behind, math.MaxInt, text, len(s), api.OK)
			checkText(t, s+behind, length-1, "", 0, api.ErrLong)
			checkText(t, s+behind, -length-1, "", 0, api.ErrLong)
		}
		head := len(s) - length
		for n := range min(len(s), 600) {
			checkText(t, s[:n], length, "", 0, api.ErrForm)
			checkText(t, s[:len(s)-n-1], length, "", 0, api.ErrForm)
			if n < head {
				checkText(t, s[:n], length-1, "", 0, api.ErrForm)
			} else {
				checkText(t, s[:n], length-1, "", 0, api.ErrLong)
			}
		}
	}
}

func TestP5_3CountKnown(t *testing.T) {
	for _, c := range []struct {
		s             string
		most, many, n int
		fault         api.Errno
	}{
		{"\x00", 0, 0, 1, api.OK},
		{"\x00", -1, 0, 0, api.ErrLong},
		{"\x00", math.MinInt, 0, 0, api.ErrLong},
		{"\x02ab", 2, 2, 1, api.OK},
		{"\x02abc", 2, 2, 1, api.OK},
		{"\x02abc", math.MaxInt, 2, 1, api.OK},
		{"\x02a", 2, 0, 0, api.ErrForm},
		{"\x02", 2, 0, 0, api.ErrForm},
		{"\x02a", 1, 0, 0, api.ErrLong},
		{"\x02ab", 1, 0, 0, api.ErrLong},
		{"\x02ab", -2, 0, 0, api.ErrLong},
		{"", 0, 0, 0, api.ErrForm},
		{"", -1, 0, 0, api.ErrForm},
		{"\xf8\x02ab", 2, 0, 0, api.ErrForm},
		{"\xf8\x02ab", -2, 0, 0, api.ErrForm},
		{"\xf8\xf8" + strings.Repeat("x", 248), 248, 248, 2, api.OK},
		{"\xf8\xf8" + strings.Repeat("x", 248), 247, 0, 0, api.ErrLong},
		{"\xf8\xf8" + strings.Repeat("x", 247), 248, 0, 0, api.ErrForm},
		{"\xf8\xf8" + strings.Repeat("x", 249), 248, 248, 2, api.OK},
		{"\xff\xff\xff\xff\xff\xff\xff\xff\xff", math.MaxInt, 0, 0, api.ErrLong},
		{"\xff\xff\xff\xff\xff\xff\xff\xff\xff", -1, 0, 0, api.ErrLong},
		{"\xff\x7f\xff\xff\xff\xff\xff\xff\xff", math.MaxInt, 0, 0, api.ErrForm},
		{"\xff\x7f\xff\xff\xff\xff\xff\xff\xff", math.MaxInt - 1, 0, 0, api.ErrLong},
		{"\xff\x01\x00\x00\x00\x00\x00\x00\x01a", math.MaxInt, 0, 0, api.ErrForm},
	} {
		checkCount(t, c.s, c.most, c.many, c.n, c.fault)
	}
}

// Each number as a count, with as many bytes behind it, with one less and with one more.
func TestP5_3Count(t *testing.T) {
	for _, many := range []int{0, 1, 2, 246, 247, 248, 249, 255, 256, 65535, 65536} {
		s := laid(uint64(many))
		for _, behind := range []int{0, many - 1, many, many + 1, many + 300} {
			if behind < 0 {
				continue
			}
			whole := s + strings.Repeat("\xff", behind)
			if behind >= many {
				checkCount(t, whole, many, many, len(s), api.OK)
				checkCount(t, whole, math.MaxInt, many, len(s), api.OK)
			} else {
				checkCount(t, whole, many, 0, 0, api.ErrForm)
				checkCount(t, whole, math.MaxInt, 0, 0, api.ErrForm)
			}
			checkCount(t, whole, many-1, 0, 0, api.ErrLong)
			checkCount(t, whole, math.MinInt+many, 0, 0, api.ErrLong)
		}
	}
}

func TestP5_3TextsKnown(t *testing.T) {
	two := "\x02\x01a\x02bc"
	for _, c := range []struct {
		s          string
		most, each int
		want       []string
		n          int
		fault      api.Errno
	}{
		{two, 2, 2, []string{"a", "bc"}, 6, api.OK},
		{two + "\x00", 2, 2, []string{"a", "bc"}, 6, api.OK},
		{two, math.MaxInt, math.MaxInt, []string{"a", "bc"}, 6, api.OK},
		{two, 1, 2, nil, 0, api.ErrLong},
		{two, 2, 1, nil, 0, api.ErrLong},
		{two, 2, 0, nil, 0, api.ErrLong},
		{two, 2, -1, nil, 0, api.ErrLong},
		{two, -1, 2, nil, 0, api.ErrLong},
		{two, -1, -1, nil, 0, api.ErrLong},
		{"\x00", 0, 0, nil, 1, api.OK},
		{"\x00", 0, -1, nil, 1, api.OK}, // there is no text, for which a bound would be asked
		{"\x00", 5, math.MinInt, nil, 1, api.OK},
		{"\x00", -1, 0, nil, 0, api.ErrLong},
		{"\x01\x00", 1, 0, []string{""}, 2, api.OK},
		{"\x01\x00", 1, -1, nil, 0, api.ErrLong},
		{"", 2, 2, nil, 0, api.ErrForm},
		{"", -1, -1, nil, 0, api.ErrForm},
		{"\xf8\x02\x01a\x02bc", 2, 2, nil, 0, api.ErrForm},
		{"\x02\x01a\xf8\x02bc", 2, 2, nil, 0, api.ErrForm},
		{"\x02\x01a\x02b", 2, 2, nil, 0, api.ErrForm},
		{"\x02\x01a", 2, 2, nil, 0, api.ErrForm},
		{"\x02\x01a", 2, 0, nil, 0, api.ErrLong},
		{"\x05\x01a\x02bc", 5, 2, nil, 0, api.ErrForm},
		{"\x06\x01a\x02bc", 6, 0, nil, 0, api.ErrForm}, // the count is ahead of the texts
		{"\x06\x01a\x02bc", 5, 0, nil, 0, api.ErrLong},
		{"\x03\x01a\x03bcd\xf8\x01", 3, 2, nil, 0, api.ErrLong}, // the first fault: too long, no number
		{"\x03\x01a\xf8\x01\x03bcd", 3, 2, nil, 0, api.ErrForm}, // and the other way round
		{"\x03\x01a\x03bcd\x09", 3, 3, nil, 0, api.ErrLong},
		{"\x03\x01a\x03bcd\x03ef", 3, 3, nil, 0, api.ErrForm},
		{"\xff\xff\xff\xff\xff\xff\xff\xff\xff\x00", math.MaxInt, 0, nil, 0, api.ErrLong},
		{"\xff\x7f\xff\xff\xff\xff\xff\xff\xff\x00", math.MaxInt, 0, nil, 0, api.ErrForm},
	} {
		checkTexts(t, c.s, c.most, c.each, c.want, c.n, c.fault)
	}
}

// Each list, whole and without its last bytes, with bounds around its length, and around that of its longest text.
func TestP5_3Texts(t *testing.T) {
	for _, list := range lists() {
		s, many, longest := laidTexts(list), len(list), 0
		for _, item := range list {
			longest = max(longest, len(item))
		}
		checkTexts(t, s, many, longest, list, len(s), api.OK)
		checkTexts(t, s+"\xff", many+1, longest+1, list, len(s), api.OK)
		checkTexts(t, s, many-1, longest, nil, 0, api.ErrLong)
		checkTexts(t, s, many-1, longest-1, nil, 0, api.ErrLong)
		if many > 0 {
			checkTexts(t, s, many, longest-1, nil, 0, api.ErrLong)
		}
		for n := range min(len(s), 400) {
			checkTexts(t, s[:n], many, longest, nil, 0, api.ErrForm)
			checkTexts(t, s[:len(s)-n-1], many, longest, nil, 0, api.ErrForm)
		}
	}
}

// A list that is told to be long, and is not: what is made has no more than there is.
func TestP5_3TextsMany(t *testing.T) {
	behind := strings.Repeat("\x00", 1<<20)
	s := laid(1<<20+1) + behind + "\xff"
	checkTexts(t, s, 1<<21, 5, nil, 0, api.ErrForm)
	s = laid(1<<20) + behind
	checkTexts(t, s, 1<<20, 0, make([]string, 1<<20), len(s), api.OK)
	checkTexts(t, laid(1<<20)+"\x01"+behind, 1<<20, 0, nil, 0, api.ErrLong)
}

// The list is the caller's own.
func TestP5_3TextsOwn(t *testing.T) {
	r := wire.New("\x02\x01a\x01b\x02\x01c\x01d")
	first := r.Texts(2, 1)
	first = append(first[:1], "x", "y")
	second := r.Texts(2, 1)
	if !slices.Equal(first, []string{"a", "x", "y"}) || !slices.Equal(second, []string{"c", "d"}) {
		t.Errorf("%q and %q", first, second)
	}
}

// short goes through all texts of up to n of these bytes.
func short(n int, s string, each func(string)) {
	each(s)
	if n == 0 {
		return
	}
	for _, c := range []byte("\x00\x01\x02\x03a\xf7\xf8\xf9\xff") {
		short(n-1, s+string([]byte{c}), each)
	}
}

func TestP5_3Short(t *testing.T) {
	short(5, "", func(s string) {
		for _, most := range []int{-1, 0, 1, 2, 247, 248, math.MaxInt} {
			checkDefined(t, s, most)
		}
	})
}

func TestP5_3Mixed(t *testing.T) {
	for i := range 2000 {
		b := []byte(mixed(300, uint32(i)))
		for at := range b {
			if at%3 != 0 || i%2 == 0 {
				b[at] %= 5 // lengths that are met
			}
		}
		for _, most := range []int{-1, 0, 3, 5, 250, math.MaxInt} {
			checkDefined(t, string(b), most)
		}
	}
}
