package wlog_test

import (
	"bytes"
	"math"
	"slices"
	"testing"

	"parapet/api"
	"parapet/wlog"
)

const size = api.SectorSize

// odd are numbers that no block, sector or size has.
var odd = []int{math.MinInt, math.MinInt + 1, math.MinInt32, -65536, -2, -1, 65536, 65537, math.MaxInt32, math.MaxInt - 1, math.MaxInt}

// generations are such that counting them up carries, or goes round.
var generations = []uint64{0, 1, 254, 255, 256, 0xffff, 1<<32 - 1, 1<<56 - 1, 1<<63 - 1, math.MaxUint64 - 1, math.MaxUint64, 0x0102030405060708}

// rising is so many numbers from one on.
func rising(from, count int) []int {
	var l []int
	for i := range count {
		l = append(l, from+i)
	}
	return l
}

// head is a header's bytes, which the chapter tells.
func head(generation uint64, blocks ...int) []byte {
	b := make([]byte, size)
	for i := range 8 {
		b[i] = byte(generation >> (56 - 8*i))
		b[size-8+i] = b[i]
	}
	b[8], b[9] = byte(len(blocks)>>8), byte(len(blocks))
	for i, n := range blocks {
		b[10+2*i], b[11+2*i] = byte(n>>8), byte(n)
	}
	return b
}

// parses holds that a header is right, and what it says.
func parses(t *testing.T, b []byte, at, size, count int, generation uint64, blocks ...int) {
	t.Helper()
	g, l, ok := wlog.Parse(b, at, size, count)
	if g != generation || !slices.Equal(l, blocks) || !ok {
		t.Error("Parse", at, size, count, g, l, ok)
	}
}

// wrong holds that a header is not right.
func wrong(t *testing.T, b []byte, at, size, count int) {
	t.Helper()
	if g, l, ok := wlog.Parse(b, at, size, count); g != 0 || len(l) != 0 || ok {
		t.Error("Parse", at, size, count, g, l, ok)
	}
}

// P16.1

func TestHeader(t *testing.T) {
	for _, g := range generations {
		for _, blocks := range [][]int{nil, {}, {0}, {7}, {7, 9}, {9, 7}, {65535, 256, 255}, {3, 3, 3}, rising(1, 247)} {
			b, e := wlog.Header(g, blocks)
			if e != api.OK || !bytes.Equal(b, head(g, blocks...)) {
				t.Error("Header", g, blocks, e, b)
			}
		}
	}
}

func TestHeaderToTheByte(t *testing.T) {
	b, e := wlog.Header(0x0102030405060708, []int{0x1234, 7})
	want := make([]byte, size)
	copy(want, []byte{1, 2, 3, 4, 5, 6, 7, 8, 0, 2, 0x12, 0x34, 0, 7})
	copy(want[504:], []byte{1, 2, 3, 4, 5, 6, 7, 8})
	if e != api.OK || !bytes.Equal(b, want) {
		t.Error("Header", e, b)
	}
}

func TestHeaderOfWhatMayNotBe(t *testing.T) {
	lists := [][]int{rising(0, 248), rising(0, 249), make([]int, 65536), make([]int, 70000)}
	for _, n := range odd {
		lists = append(lists, []int{n}, []int{1, n}, []int{n, 1}, append(rising(0, 246), n))
	}
	for _, l := range lists {
		if b, e := wlog.Header(5, l); b != nil || e != api.ErrLog {
			t.Error("Header", len(l), l[0], e)
		}
	}
}

func TestParse(t *testing.T) {
	for _, g := range generations {
		parses(t, head(g), 1, 4, 10, g)
		parses(t, head(g, 7, 9), 1, 4, 10, g, 7, 9)
		parses(t, head(g, 9, 0, 5), 1, 4, 10, g, 9, 0, 5)
		parses(t, head(g, rising(300, 247)...), 0, 248, 4096, g, rising(300, 247)...)
		parses(t, head(g, 65535, 0), 1, 3, 65536, g, 65535, 0)
	}
}

func TestParseOfAnotherLength(t *testing.T) {
	for _, n := range []int{0, 1, 8, 10, 18, 504, 511, 513, 1024} {
		wrong(t, make([]byte, n), 1, 4, 10)
	}
	wrong(t, nil, 1, 4, 10)
	wrong(t, head(5, 7)[:511], 1, 4, 10)
	wrong(t, append(head(5, 7), 0), 1, 4, 10)
}

// The generations are the same, to the last bit.
func TestParseOfTwoGenerations(t *testing.T) {
	for i := range 8 {
		for bit := range 8 {
			for _, at := range []int{i, 504 + i} {
				b := head(0x0102030405060708, 7, 9)
				b[at] ^= 1 << bit
				wrong(t, b, 1, 4, 10)
			}
		}
	}
}

func TestParseOfTooManyBlocks(t *testing.T) {
	for n := range 6 {
		b := head(5, rising(20, n)...)
		for size := -3; size < 9; size++ {
			if n <= size-1 {
				parses(t, b, 1, size, 30, 5, rising(20, n)...)
			} else {
				wrong(t, b, 1, size, 30)
			}
		}
		for _, size := range []int{math.MinInt, math.MinInt + 1, math.MinInt32} {
			wrong(t, b, 1, size, 30)
		}
		parses(t, b, 40, math.MaxInt, 30, 5, rising(20, n)...)
	}
}

// A header has no room for more than 247, whatever the log's size.
func TestParseOfMoreThanAHeaderHas(t *testing.T) {
	for _, n := range []int{248, 249, 256, 257, 65535} {
		b := head(5)
		b[8], b[9] = byte(n>>8), byte(n)
		for i := range 247 {
			b[10+2*i], b[11+2*i] = byte((i+1000)>>8), byte(i+1000)
		}
		for _, size := range []int{1, 2, 248, 249, 250, 1000, 65536, math.MaxInt} {
			wrong(t, b, 60000, size, 50000)
			wrong(t, b, -1, size, 65536)
		}
	}
	// The 248th number would be the generation's first bytes.
	b := head(0x2000_0000_0000_2000, rising(1000, 248)...)
	copy(b[504:], b[:8])
	wrong(t, b, 60000, 1000, 50000)
}

func TestParseOfNumbersOfNoBlock(t *testing.T) {
	for n := range 20 {
		other := 11 - n%2
		lists := [][]int{{n}, {n, other}, {other, n}, {other, n, 0}}
		for _, l := range lists {
			switch {
			case n >= 4 && n < 8 || n >= 12:
				wrong(t, head(6, l...), 4, 4, 12)
			case n != other && n != 0:
				parses(t, head(6, l...), 4, 4, 12, 6, l...)
			}
		}
	}
	parses(t, head(6, 0), 4, 4, 12, 6, 0)
	for _, n := range []int{12, 255, 256, 4096, 65535} {
		wrong(t, head(6, n), 4, 4, 12)
		wrong(t, head(6, n), 4, 4, n)
		parses(t, head(6, n), 4, 4, n+1, 6, n)
	}
}

func TestParseOfTheSameBlockTwice(t *testing.T) {
	wrong(t, head(6, 7, 7), 1, 4, 10)
	wrong(t, head(6, 7, 8, 7), 1, 4, 10)
	wrong(t, head(6, 8, 7, 7), 1, 4, 10)
	l := rising(300, 247)
	l[246] = l[0]
	wrong(t, head(6, l...), 0, 248, 4096)
}

func TestParseOfOtherBytes(t *testing.T) {
	for _, blocks := range [][]int{nil, {7}, {7, 9}, rising(300, 246)} {
		for i := 10 + 2*len(blocks); i < 504; i++ {
			for _, x := range []byte{1, 0x80, 0xff} {
				b := head(5, blocks...)
				b[i] = x
				wrong(t, b, 0, 248, 4096)
			}
		}
	}
}

// The numbers count alone, whether or not such a log may be.
func TestParseForLogsThatMayNotBe(t *testing.T) {
	for _, c := range []struct{ at, size, count int }{
		{-5, 1, -5}, {math.MinInt, 1, math.MinInt}, {math.MaxInt, 249, math.MaxInt}, {0, math.MaxInt, 0}, {math.MaxInt, math.MaxInt, -1},
	} {
		parses(t, head(7), c.at, c.size, c.count, 7)
		wrong(t, head(7, 0), c.at, c.size, min(c.count, 0))
	}
	for _, c := range []struct {
		at, size int
		block    bool
	}{
		{math.MinInt, 2, true}, {math.MinInt, math.MaxInt, true}, {math.MinInt + 8, math.MaxInt, true}, {math.MinInt + 9, math.MaxInt, true},
		{-math.MaxInt + 7, math.MaxInt, true}, {-math.MaxInt + 8, math.MaxInt, true}, {-math.MaxInt + 9, math.MaxInt, false},
		{-1, math.MaxInt, false}, {0, math.MaxInt, false}, {8, math.MaxInt, false}, {9, math.MaxInt, true},
		{math.MaxInt, 2, true}, {math.MaxInt, math.MaxInt, true}, {-4, 12, true}, {-4, 13, false}, {-4, 20, false}, {5, 4, false}, {5, 3, true},
	} {
		if c.block {
			parses(t, head(7, 8), c.at, c.size, math.MaxInt, 7, 8)
		} else {
			wrong(t, head(7, 8), c.at, c.size, math.MaxInt)
		}
	}
}

// right is what a header is that is right: the one that says what it says.
func right(b []byte, at, size, count int) ([]int, bool) {
	var blocks []int
	n := int(b[8])<<8 | int(b[9])
	if n > 247 {
		return nil, false
	}
	var g uint64
	for _, x := range b[:8] {
		g = g<<8 | uint64(x)
	}
	seen := map[int]bool{}
	for i := range n {
		x := int(b[10+2*i])<<8 | int(b[11+2*i])
		inside := x >= at && x < at+size
		if inside || x >= count || seen[x] {
			return nil, false
		}
		seen[x] = true
		blocks = append(blocks, x)
	}
	return blocks, n < size && bytes.Equal(b, head(g, blocks...))
}

// Whatever byte of a header is another one, it is right or not as the chapter tells.
func TestParseOfTurnedBytes(t *testing.T) {
	r := dice(161)
	for range 40000 {
		count, at, size := 20+r.below(20), r.below(20), 1+r.below(8)
		var blocks []int
		for range r.below(5) {
			blocks = append(blocks, r.below(count+1))
		}
		b := head(generations[r.below(len(generations))], blocks...)
		if r.below(2) == 0 {
			b[r.below(14)] += byte(r.below(3))
		}
		if r.below(8) == 0 {
			b[r.below(512)] ^= 1 << r.below(8)
		}
		_, l, ok := wlog.Parse(b, at, size, count)
		want, isRight := right(b, at, size, count)
		if ok != isRight || ok && !slices.Equal(l, want) || !ok && len(l) != 0 {
			t.Fatal("Parse", at, size, count, blocks, l, ok)
		}
	}
}

// R3

func TestHeadersAreNewMemory(t *testing.T) {
	room := []int{7, 9, 100000, -1}
	b, e := wlog.Header(3, room[:2])
	if e != api.OK || !slices.Equal(room, []int{7, 9, 100000, -1}) {
		t.Error("Header", e, room)
	}
	was := bytes.Clone(b)
	_, l, _ := wlog.Parse(b, 1, 4, 10)
	if !bytes.Equal(b, was) {
		t.Error("Parse has changed what came in")
	}
	clear(b)
	if !slices.Equal(l, []int{7, 9}) {
		t.Error("Parse keeps what came in", l)
	}
}
