package wire_test

import (
	"math"
	"math/big"
	"slices"
	"strings"
	"testing"

	"codicil/wire"
)

// laid is the chapter's definition of a number's bytes.
func laid(x uint64) string {
	if x < 248 {
		return string([]byte{byte(x)})
	}
	b := new(big.Int).SetUint64(x).Bytes() // big-endian, the first of which is not 0
	return string([]byte{byte(247 + len(b))}) + string(b)
}

func laidText(s string) string {
	return laid(uint64(len(s))) + s
}

func laidTexts(l []string) string {
	s := laid(uint64(len(l)))
	for _, item := range l {
		s += laidText(item)
	}
	return s
}

// mixed answers n bytes that look like nothing in particular, the same ones each time.
func mixed(n int, seed uint32) string {
	b := make([]byte, n)
	for i := range b {
		seed = seed*1664525 + 1013904223
		b[i] = byte(seed >> 24)
	}
	return string(b)
}

// numbers has those at which a form ends or begins, each power of two, and their neighbours.
func numbers() []uint64 {
	list := []uint64{0, 1, 2, 127, 128, 246, 247, 248, 249, 254, 255, 256, 257, 503, 504, 65535, 65536, math.MaxInt32, math.MaxUint32, math.MaxInt64, math.MaxUint64 - 1, math.MaxUint64}
	for i := range 64 {
		power := uint64(1) << i
		list = append(list, power-1, power, power+1, power+247, power|0x55, ^power, power*0xab)
	}
	slices.Sort(list)
	return slices.Compact(list)
}

// texts has those whose lengths are at the edges, too.
func texts() []string {
	list := []string{"", "\x00", "a", "bc", "\xf7", "\xf8", "\xff\xfe", "\xf8\xf8", "\xe2\x82\xac", "a\x00b\n"}
	for _, n := range []int{10, 246, 247, 248, 249, 255, 256, 257, 65535, 65536, 70000} {
		list = append(list, mixed(n, uint32(n)), strings.Repeat("\x00", n))
	}
	return list
}

func lists() [][]string {
	list := [][]string{nil, {}, {""}, {"a"}, {"a", "bc"}, {"", ""}, {"a", "", "a"}, {"\xff", "\x00", "\xf8\x07"}, texts()}
	for _, n := range []int{3, 246, 247, 248, 255, 256, 300} {
		var l []string
		for i := range n {
			l = append(l, mixed(i%7, uint32(i)))
		}
		list = append(list, l, make([]string, n))
	}
	return list
}

func checkLaid(t *testing.T, name, got, want string) {
	t.Helper()
	if got != want {
		t.Errorf("%s: %x, not %x", name, got[:min(len(got), 40)], want[:min(len(want), 40)])
	}
}

func TestP5_1NumbersKnown(t *testing.T) {
	for _, c := range []struct {
		x    uint64
		want string
	}{
		{0, "\x00"},
		{1, "\x01"},
		{127, "\x7f"},
		{128, "\x80"},
		{246, "\xf6"},
		{247, "\xf7"},
		{248, "\xf8\xf8"},
		{249, "\xf8\xf9"},
		{255, "\xf8\xff"},
		{256, "\xf9\x01\x00"},
		{65535, "\xf9\xff\xff"},
		{65536, "\xfa\x01\x00\x00"},
		{1<<24 - 1, "\xfa\xff\xff\xff"},
		{1 << 24, "\xfb\x01\x00\x00\x00"},
		{0x01020304, "\xfb\x01\x02\x03\x04"},
		{1<<32 - 1, "\xfb\xff\xff\xff\xff"},
		{1 << 32, "\xfc\x01\x00\x00\x00\x00"},
		{1<<40 - 1, "\xfc\xff\xff\xff\xff\xff"},
		{1 << 40, "\xfd\x01\x00\x00\x00\x00\x00"},
		{1 << 48, "\xfe\x01\x00\x00\x00\x00\x00\x00"},
		{1<<56 - 1, "\xfe\xff\xff\xff\xff\xff\xff\xff"},
		{1 << 56, "\xff\x01\x00\x00\x00\x00\x00\x00\x00"},
		{0x0102030405060708, "\xff\x01\x02\x03\x04\x05\x06\x07\x08"},
		{1 << 63, "\xff\x80\x00\x00\x00\x00\x00\x00\x00"},
		{1<<64 - 1, "\xff\xff\xff\xff\xff\xff\xff\xff\xff"},
	} {
		checkLaid(t, "a number", wire.Uint(c.x), c.want)
		checkLaid(t, "the definition", laid(c.x), c.want)
	}
}

func TestP5_1Numbers(t *testing.T) {
	for x := range uint64(1<<16 + 1000) {
		checkLaid(t, "a number", wire.Uint(x), laid(x))
	}
	for _, x := range numbers() {
		checkLaid(t, "a number", wire.Uint(x), laid(x))
	}
}

func TestP5_1Text(t *testing.T) {
	checkLaid(t, "a text", wire.Text(""), "\x00")
	checkLaid(t, "a text", wire.Text("abc"), "\x03abc")
	checkLaid(t, "a text", wire.Text("\x00\xff"), "\x02\x00\xff")
	checkLaid(t, "a text", wire.Text(strings.Repeat("x", 247)), "\xf7"+strings.Repeat("x", 247))
	checkLaid(t, "a text", wire.Text(strings.Repeat("x", 248)), "\xf8\xf8"+strings.Repeat("x", 248))
	checkLaid(t, "a text", wire.Text(strings.Repeat("x", 65535)), "\xf9\xff\xff"+strings.Repeat("x", 65535))
	checkLaid(t, "a text", wire.Text(strings.Repeat("x", 65536)), "\xfa\x01\x00\x00"+strings.Repeat("x", 65536))
	for _, s := range texts() {
		checkLaid(t, "a text", wire.Text(s), laidText(s))
	}
}

func TestP5_1Bool(t *testing.T) {
	checkLaid(t, "false", wire.Bool(false), "\x00")
	checkLaid(t, "true", wire.Bool(true), "\x01")
}

func TestP5_1Texts(t *testing.T) {
	checkLaid(t, "a list", wire.Texts([]string{"a", "bc"}), "\x02\x01\x61\x02\x62\x63")
	checkLaid(t, "no list", wire.Texts(nil), "\x00")
	checkLaid(t, "an empty list", wire.Texts([]string{}), "\x00")
	checkLaid(t, "a list", wire.Texts([]string{"", ""}), "\x02\x00\x00")
	checkLaid(t, "a list", wire.Texts(make([]string, 248)), "\xf8\xf8"+strings.Repeat("\x00", 248))
	for _, l := range lists() {
		before := slices.Clone(l)
		checkLaid(t, "a list", wire.Texts(l), laidTexts(l))
		if !slices.Equal(l, before) {
			t.Errorf("a list of %d is changed", len(l))
		}
	}
}

// What stands behind a list is not in it.
func TestP5_1PieceOfList(t *testing.T) {
	l := []string{"a", "b", "c"}
	checkLaid(t, "a piece", wire.Texts(l[1:2]), "\x01\x01b")
	if !slices.Equal(l, []string{"a", "b", "c"}) {
		t.Errorf("a list is changed: %q", l)
	}
}
