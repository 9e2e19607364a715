package sha_test

import (
	"crypto/sha256"
	"encoding/hex"
	"io"
	"strings"
	"testing"

	"codicil/sha"
)

// mixed answers n bytes that look like nothing in particular, the same ones each time.
func mixed(n int, seed uint32) string {
	b := make([]byte, n)
	for i := range b {
		seed = seed*1664525 + 1013904223
		b[i] = byte(seed >> 24)
	}
	return string(b)
}

func digest(s string) string {
	d := sha256.Sum256([]byte(s))
	return string(d[:])
}

func checkSum(t *testing.T, s, name string) {
	t.Helper()
	if got, want := sha.Sum(s), digest(s); got != want {
		t.Errorf("Sum of %s (%d bytes): %x, not %x", name, len(s), got, want)
	}
}

// Texts whose digests are published with the standard.
func TestP3_1Known(t *testing.T) {
	for _, c := range []struct{ s, want string }{
		{"", "e3b0c442 98fc1c14 9afbf4c8 996fb924 27ae41e4 649b934c a495991b 7852b855"},
		{"abc", "ba7816bf 8f01cfea 414140de 5dae2223 b00361a3 96177a9c b410ff61 f20015ad"},
		{
			"abcdbcdecdefdefgefghfghighijhijkijkljklmklmnlmnomnopnopq",
			"248d6a61 d20638b8 e5c02693 0c3e6039 a33ce459 64ff2167 f6ecedd4 19db06c1",
		},
		{
			"abcdefghbcdefghicdefghijdefghijkefghijklfghijklmghijklmnhijklmnoijklmnopjklmnopqklmnopqrlmnopqrsmnopqrstnopqrstu",
			"cf5b16a7 78af8380 036ce59e 7b049237 0b249b11 e8f07a51 afac4503 7afee9d1",
		},
		{strings.Repeat("a", 1000000), "cdc76e5c 9914fb92 81a1c7e2 84d73e67 f1809a48 a497200e 046d39cc c7112cd0"},
	} {
		want, err := hex.DecodeString(strings.ReplaceAll(c.want, " ", ""))
		if err != nil {
			t.Fatal(err)
		}
		if got := sha.Sum(c.s); got != string(want) {
			t.Errorf("Sum of %d bytes: %x, not %x", len(c.s), got, want)
		}
	}
}

// All lengths of some blocks: at 56 bytes, and up to a block's end, the padding needs a block more.
func TestP3_1EachLength(t *testing.T) {
	for n := range 6*64 + 2 {
		checkSum(t, mixed(n, uint32(n)), "mixed bytes")
		checkSum(t, strings.Repeat("\x00", n), "zeros")
		checkSum(t, strings.Repeat("\xff", n), "ones")
		checkSum(t, strings.Repeat("\x80", n), "bytes as the padding's first")
	}
}

// What looks like a padding is text, and is padded.
func TestP3_1Padded(t *testing.T) {
	short := "abc"
	padded := short + "\x80" + strings.Repeat("\x00", 59) + "\x18"
	checkSum(t, padded, "a text with its padding")
	if sha.Sum(padded) == sha.Sum(short) {
		t.Error("a text, and the text with its padding: one digest")
	}
}

func TestP3_1EachBit(t *testing.T) {
	for _, n := range []int{1, 55, 56, 64, 130} {
		b := make([]byte, n)
		for i := range 8 * n {
			b[i/8] = 1 << (i % 8)
			checkSum(t, string(b), "one bit")
			b[i/8] = 0
		}
	}
}

func TestP3_1Mixed(t *testing.T) {
	for i := range 2000 {
		checkSum(t, mixed(i*7%1500, uint32(i)+1), "mixed bytes")
	}
}

// The number of bits in more and more bytes, and next to there.
func TestP3_1Long(t *testing.T) {
	for _, bits := range []int{8, 16, 24} {
		n := 1 << bits / 8
		for d := -1; d <= 1; d++ {
			checkSum(t, mixed(n+d, 5), "a long text")
		}
	}
}

// The number of bits has more than 32 bits itself.
func TestP3_1Longest(t *testing.T) {
	const n = 1<<29 + 3
	h := sha256.New()
	piece := strings.Repeat("\x00", 1<<20)
	for left := n; left > 0; left -= len(piece) {
		io.WriteString(h, piece[:min(left, len(piece))])
	}
	if got, want := sha.Sum(strings.Repeat("\x00", n)), h.Sum(nil); got != string(want) {
		t.Errorf("Sum of %d zeros: %x, not %x", n, got, want)
	}
}

func TestP3_1Again(t *testing.T) {
	s := mixed(200, 9)
	first := sha.Sum(s)
	sha.Sum("another one")
	if sha.Sum(s) != first || s != mixed(200, 9) {
		t.Error("a second Sum of a text is another one")
	}
}
