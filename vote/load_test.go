package vote_test

import (
	"math"
	"strings"
	"testing"

	"codicil/api"
	"codicil/disk"
)

func TestP9_2Nil(t *testing.T) {
	for _, d := range []*disk.Disk{nil, {}, new(disk.Disk)} {
		checkLoad(t, d, api.Vote{}, api.ErrNil)
	}
}

// A disk that has failed tells nothing, whether there is a vote, and whichever.
func TestP9_2Down(t *testing.T) {
	for _, has := range []files{{}, {"vote": frameOf(api.Vote{Term: 3, For: 2})}, {"vote": "no"}, {"vote": ""}, {"vote.new": "x"}} {
		d := diskOf(t, 100, has)
		d.Fuse(0)
		checkLoad(t, d, api.Vote{}, api.ErrDown)
		d.Fuse(1)
		d.Sync()
		checkLoad(t, d, api.Vote{}, api.ErrDown)
	}
}

func TestP9_2None(t *testing.T) {
	good := frameOf(api.Vote{Term: 3, For: 2})
	for _, has := range []files{{}, {"vote.new": good}, {"vot": good, "vote.": good, "vote-": good, "xvote": good, "vote.new": "bad"}} {
		d := diskOf(t, 200, has)
		checkLoad(t, d, api.Vote{}, api.OK)
		checkFiles(t, d, has)
	}
}

// The temporary file is none of Load's, be it whole or not.
func TestP9_2Valid(t *testing.T) {
	for _, v := range votes() {
		for _, rest := range []string{"", "x", frameOf(api.Vote{Term: 5, For: 5})} {
			d := diskOf(t, 100, files{"vote": frameOf(v), "vote.new": rest})
			checkLoad(t, d, v, api.OK)
			d.Fuse(1)
			checkLoad(t, d, v, api.OK)
			if n := calls(d); n != 1 {
				t.Errorf("Load spends calls: %d of 1 are left", n)
			}
		}
	}
}

// What is loose is told as it is now.
func TestP9_2Loose(t *testing.T) {
	d := newDisk(t, 100)
	good := frameOf(api.Vote{Term: 3, For: 2})
	for at := range good {
		if at > 0 {
			checkLoad(t, d, api.Vote{}, api.ErrBad)
		}
		checkErr(t, "Append", d.Append("vote", good[at:at+1]), api.OK)
	}
	checkLoad(t, d, api.Vote{Term: 3, For: 2}, api.OK)
	d.Remove("vote")
	checkLoad(t, d, api.Vote{}, api.OK)
}

func checkBad(t *testing.T, data string) {
	t.Helper()
	d := diskOf(t, 1<<16, files{"vote": data})
	checkLoad(t, d, api.Vote{}, api.ErrBad)
	checkFiles(t, d, files{"vote": data})
	if t.Failed() {
		t.Fatalf("vote: %.60q", data)
	}
}

// The frame is that of two numbers, which are a vote, and of nothing else.
func TestP9_2BadNumbers(t *testing.T) {
	for _, v := range wrongVotes() {
		checkBad(t, frameOf(v))
	}
	for _, term := range []uint64{0, 1, 247, 248, mostTerm} {
		for _, who := range []uint64{65, 247, 248, 256, 1 << 32, 1<<32 + 1, 1 << 48, 1 << 63, math.MaxUint64} {
			checkBad(t, framed(number(term)+number(who)))
		}
	}
	for _, text := range []string{
		"", "\x03", "\x03\x02\x00", "\x03\x02\x01", "\x00\x00\x00", "\x00",
		"\xf8\x03\x02", "\xf8\xf7\x02", "\xf9\x00\xff\x02", "\xf9\x01\x02", "\xf8", "\xff", "\xff\xff",
		"\x03\xf8\x02", "\x03\xf8\x40", "\x03\xf9\x00\x02", "\x03\xf8", "\xf8\xf8", "\xff\x00\x01\x00\x00\x00\x00\x00\x00\x02",
		"\x02\x03\x02", "3 2", "\x03\x02\xff", strings.Repeat("\x01", 1<<14),
	} {
		checkBad(t, framed(text))
	}
}

// All texts of two bytes: those that are a vote's are told, and no others.
func TestP9_2AllOfTwo(t *testing.T) {
	for i := range 256 {
		for j := range 256 {
			data := framed(string([]byte{byte(i), byte(j)}))
			v := api.Vote{Term: uint64(i), For: j}
			if i > 247 || !isVote(v) {
				checkBad(t, data)
				continue
			}
			checkLoad(t, diskOf(t, 100, files{"vote": data}), v, api.OK)
		}
	}
}

func TestP9_2BadFrames(t *testing.T) {
	for _, v := range []api.Vote{{}, {Term: 3, For: 2}, {Term: mostTerm, For: 64}} {
		good := frameOf(v)
		for n := range good {
			checkBad(t, good[:n])
			checkBad(t, good[n+1:])
		}
		for _, more := range []string{"\x00", "x", good, good[:1], good[:8], good[:13], framed(""), strings.Repeat("\x00", 100)} {
			checkBad(t, good+more)
			checkBad(t, more+good)
		}
		checkBad(t, number(v.Term)+number(uint64(v.For)))
		checkBad(t, framed(good))
		checkBad(t, framed(number(v.Term))+framed(number(uint64(v.For))))
	}
	checkBad(t, framed(strings.Repeat("\x01", 1<<14+1)))
	checkBad(t, strings.Repeat("x", 1000))
}
