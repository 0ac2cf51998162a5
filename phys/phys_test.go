package phys_test

import (
	"bytes"
	"math"
	"testing"

	"parapet/api"
	"parapet/phys"
)

// farFrame is a frame whose address, worked out in an int, would wrap round to 0.
const farFrame = math.MaxInt>>7 + 1

func make3(t *testing.T) *phys.Mem {
	t.Helper()
	m, e := phys.New(3)
	if e != api.OK {
		t.Fatal("New", e)
	}
	return m
}

// filled is a memory of 3 frames in which no two bytes of a frame, and no frames, are the same.
func filled(t *testing.T) *phys.Mem {
	t.Helper()
	m := make3(t)
	b := make([]byte, 3*api.PageSize)
	for i := range b {
		b[i] = byte(i + 7*(i/api.PageSize))
	}
	if e := m.Write(0, b); e != api.OK {
		t.Fatal("Write", e)
	}
	return m
}

func all(t *testing.T, m *phys.Mem) []byte {
	t.Helper()
	b, e := m.Read(0, m.Frames()*api.PageSize)
	if e != api.OK {
		t.Fatal("Read", e)
	}
	return b
}

// unchanged holds a memory against what it was.
func unchanged(t *testing.T, m *phys.Mem, was []byte) {
	t.Helper()
	if !bytes.Equal(all(t, m), was) {
		t.Error("the memory has changed")
	}
}

// P1.1

func TestNewOfNoCount(t *testing.T) {
	for _, n := range []int{math.MinInt, -1, 0, api.MaxFrames + 1, farFrame, math.MaxInt} {
		if m, e := phys.New(n); m != nil || e != api.ErrArg {
			t.Error(n, m, e)
		}
	}
}

func TestNewIsZeros(t *testing.T) {
	for _, n := range []int{1, 2, api.MaxFrames} {
		m, e := phys.New(n)
		if e != api.OK || m.Frames() != n {
			t.Fatal(n, e, m.Frames())
		}
		if !bytes.Equal(all(t, m), make([]byte, n*api.PageSize)) {
			t.Error(n, "frames are not zeros")
		}
		if _, e := m.Load8(n * api.PageSize); e != api.ErrAddr {
			t.Error(n, "there is a byte behind the last one", e)
		}
	}
}

// P1.2

func TestBytes(t *testing.T) {
	m := make3(t)
	for _, a := range []int{0, 1, 255, 256, 767} {
		if e := m.Store8(a, byte(a+1)|128); e != api.OK {
			t.Error("Store8", a, e)
		}
		if x, e := m.Load8(a); x != byte(a+1)|128 || e != api.OK {
			t.Error("Load8", a, x, e)
		}
	}
}

func TestNoSuchByte(t *testing.T) {
	m := filled(t)
	was := all(t, m)
	for _, a := range []int{math.MinInt, -1, 768, math.MaxInt} {
		if x, e := m.Load8(a); x != 0 || e != api.ErrAddr {
			t.Error("Load8", a, x, e)
		}
		if e := m.Store8(a, 99); e != api.ErrAddr {
			t.Error("Store8", a, e)
		}
	}
	unchanged(t, m, was)
}

func TestWords(t *testing.T) {
	m := make3(t)
	for _, a := range []int{0, 4, 252, 256, 764} {
		x := 0xfedcba98 ^ uint32(a)
		if e := m.Store32(a, x); e != api.OK {
			t.Error("Store32", a, e)
		}
		if y, e := m.Load32(a); y != x || e != api.OK {
			t.Error("Load32", a, y, e)
		}
	}
}

func TestNoSuchWord(t *testing.T) {
	m := filled(t)
	was := all(t, m)
	for _, a := range []int{math.MinInt, -4, -1, 1, 2, 3, 254, 763, 765, 766, 767, 768, math.MaxInt - 3, math.MaxInt} {
		if x, e := m.Load32(a); x != 0 || e != api.ErrAddr {
			t.Error("Load32", a, x, e)
		}
		if e := m.Store32(a, 99); e != api.ErrAddr {
			t.Error("Store32", a, e)
		}
		if x, e := m.Cas(a, 0, 99); x != 0 || e != api.ErrAddr {
			t.Error("Cas", a, x, e)
		}
	}
	unchanged(t, m, was)
}

func TestCas(t *testing.T) {
	m := make3(t)
	m.Store32(4, 258)
	if x, e := m.Cas(4, 258, 7); x != 258 || e != api.OK {
		t.Error("Cas of what was there", x, e)
	}
	if x, e := m.Cas(4, 258, 8); x != 7 || e != api.OK {
		t.Error("Cas of another one", x, e)
	}
	if x, _ := m.Load32(4); x != 7 {
		t.Error("stored", x)
	}
	if x, e := m.Cas(764, 0, math.MaxUint32); x != 0 || e != api.OK {
		t.Error("Cas of the last word", x, e)
	}
	if x, _ := m.Load32(764); x != math.MaxUint32 {
		t.Error("the last word", x)
	}
}

// P1.3

func TestRead(t *testing.T) {
	m := filled(t)
	was := all(t, m)
	for _, c := range []struct{ addr, n int }{{0, 0}, {0, 1}, {250, 12}, {767, 1}, {767, 0}, {768, 0}, {0, 768}} {
		b, e := m.Read(c.addr, c.n)
		if e != api.OK || !bytes.Equal(b, was[c.addr:c.addr+c.n]) {
			t.Error(c, b, e)
		}
	}
}

func TestReadOfNone(t *testing.T) {
	m := filled(t)
	for _, c := range []struct{ addr, n int }{
		{0, -1}, {5, -5}, {0, math.MinInt}, {-1, 0}, {-1, 1}, {-1, 2}, {769, 0}, {768, 1}, {767, 2}, {0, 769},
		{math.MinInt, 0}, {math.MaxInt, 0}, {math.MaxInt, 1}, {1, math.MaxInt}, {math.MaxInt, math.MaxInt}, {math.MinInt, math.MinInt},
	} {
		if b, e := m.Read(c.addr, c.n); b != nil || e != api.ErrAddr {
			t.Error(c, b, e)
		}
	}
}

func TestWrite(t *testing.T) {
	m := filled(t)
	want := all(t, m)
	for _, c := range []struct {
		addr int
		b    string
	}{{0, "a"}, {254, "over the edge"}, {767, "z"}, {768, ""}, {0, ""}} {
		if e := m.Write(c.addr, []byte(c.b)); e != api.OK {
			t.Error("Write", c.addr, e)
		}
		copy(want[c.addr:], c.b)
		unchanged(t, m, want)
	}
	if m.Write(0, nil) != api.OK || m.Write(768, nil) != api.OK {
		t.Error("Write of nil")
	}
}

func TestWriteOfNone(t *testing.T) {
	m := filled(t)
	was := all(t, m)
	for _, c := range []struct{ addr, n int }{{-1, 0}, {-1, 1}, {-1, 2}, {769, 0}, {768, 1}, {767, 2}, {0, 769}, {math.MaxInt, 1}, {math.MinInt, 0}} {
		if e := m.Write(c.addr, make([]byte, c.n)); e != api.ErrAddr {
			t.Error(c, e)
		}
	}
	if m.Write(-1, nil) != api.ErrAddr || m.Write(769, nil) != api.ErrAddr {
		t.Error("Write of nil")
	}
	unchanged(t, m, was)
}

func TestZero(t *testing.T) {
	for n := range 3 {
		m := filled(t)
		want := all(t, m)
		clear(want[n*api.PageSize : (n+1)*api.PageSize])
		if e := m.Zero(n); e != api.OK {
			t.Error("Zero", n, e)
		}
		unchanged(t, m, want)
	}
}

func TestCopy(t *testing.T) {
	for to := range 3 {
		for from := range 3 {
			m := filled(t)
			want := all(t, m)
			copy(want[to*api.PageSize:(to+1)*api.PageSize], want[from*api.PageSize:])
			if e := m.Copy(to, from); e != api.OK {
				t.Error("Copy", to, from, e)
			}
			unchanged(t, m, want)
		}
	}
}

func TestCopyDoesNotTie(t *testing.T) {
	m := filled(t)
	m.Copy(2, 1)
	want := all(t, m)
	want[256] = 200
	m.Store8(256, 200)
	unchanged(t, m, want)
}

func TestFrame(t *testing.T) {
	m := filled(t)
	was := all(t, m)
	for n := range 3 {
		b, e := m.Frame(n)
		if e != api.OK || !bytes.Equal(b, was[n*api.PageSize:(n+1)*api.PageSize]) {
			t.Error("Frame", n, b, e)
		}
	}
}

func TestNoSuchFrame(t *testing.T) {
	m := filled(t)
	was := all(t, m)
	for _, n := range []int{math.MinInt, -1, 3, api.MaxFrames, farFrame, math.MaxInt} {
		if e := m.Zero(n); e != api.ErrAddr {
			t.Error("Zero", n, e)
		}
		if e := m.Copy(n, 1); e != api.ErrAddr {
			t.Error("Copy to", n, e)
		}
		if e := m.Copy(1, n); e != api.ErrAddr {
			t.Error("Copy from", n, e)
		}
		if b, e := m.Frame(n); b != nil || e != api.ErrAddr {
			t.Error("Frame", n, b, e)
		}
	}
	unchanged(t, m, was)
}

// P1.4

func TestFork(t *testing.T) {
	m := filled(t)
	was := all(t, m)
	f := m.Fork()
	if f.Frames() != 3 {
		t.Fatal("Frames", f.Frames())
	}
	unchanged(t, f, was)
	m.Store32(0, 1)
	m.Zero(1)
	unchanged(t, f, was)
	mine := all(t, m)
	f.Store8(767, 1)
	f.Copy(0, 2)
	f.Cas(4, 0, 1)
	unchanged(t, m, mine)
}

func TestOfNoMemory(t *testing.T) {
	for _, m := range []*phys.Mem{nil, {}} {
		if m.Frames() != 0 || m.Fork() != nil {
			t.Error("Frames, Fork")
		}
		if x, e := m.Load8(0); x != 0 || e != api.ErrClosed {
			t.Error("Load8", x, e)
		}
		if x, e := m.Load32(1); x != 0 || e != api.ErrClosed {
			t.Error("Load32", x, e)
		}
		if x, e := m.Cas(-1, 0, 0); x != 0 || e != api.ErrClosed {
			t.Error("Cas", x, e)
		}
		if b, e := m.Read(0, -1); b != nil || e != api.ErrClosed {
			t.Error("Read", b, e)
		}
		if b, e := m.Frame(-1); b != nil || e != api.ErrClosed {
			t.Error("Frame", b, e)
		}
		for i, e := range []api.Errno{m.Store8(0, 1), m.Store32(1, 1), m.Write(0, nil), m.Zero(0), m.Copy(0, 0)} {
			if e != api.ErrClosed {
				t.Error("call", i, e)
			}
		}
	}
}

// P1.5

func TestWordsAreTheirBytes(t *testing.T) {
	m := make3(t)
	m.Store32(4, 0x01020384)
	for i, want := range []byte{0x84, 3, 2, 1} {
		if x, _ := m.Load8(4 + i); x != want {
			t.Error("byte", i, x)
		}
	}
	for i := range 4 {
		m.Store8(260+i, byte(0xf1+i))
	}
	if x, _ := m.Load32(260); x != 0xf4f3f2f1 {
		t.Errorf("word %x", x)
	}
	m.Cas(260, 0xf4f3f2f1, 0x0a0b0c0d)
	if b, _ := m.Read(260, 4); string(b) != "\x0d\x0c\x0b\x0a" {
		t.Error("bytes behind a Cas", b)
	}
}

func TestCasOfAnotherOneChangesNothing(t *testing.T) {
	m := filled(t)
	was := all(t, m)
	x, _ := m.Load32(8)
	for _, old := range []uint32{x + 1, x ^ 1<<31, ^x} {
		if y, e := m.Cas(8, old, 0); y != x || e != api.OK {
			t.Error(old, y, e)
		}
	}
	unchanged(t, m, was)
}

// A store at every edge of the middle frame leaves the frames beside it.
func TestStoresStayInTheirFrame(t *testing.T) {
	m := filled(t)
	was := all(t, m)
	m.Store8(256, 255)
	m.Store8(511, 255)
	m.Store32(256, 1)
	m.Store32(508, 1)
	word, _ := m.Load32(508)
	m.Cas(508, word, 2)
	m.Write(256, bytes.Repeat([]byte{9}, 256))
	now := all(t, m)
	if !bytes.Equal(now[:256], was[:256]) || !bytes.Equal(now[512:], was[512:]) {
		t.Error("another frame has changed")
	}
}

// R3

func TestAnswersAreNewMemory(t *testing.T) {
	m := filled(t)
	was := all(t, m)
	a, _ := m.Read(4, 8)
	b, _ := m.Read(4, 8)
	f, _ := m.Frame(1)
	clear(a)
	clear(f)
	if !bytes.Equal(b, was[4:12]) {
		t.Error("two answers share memory")
	}
	for _, l := range [][]byte{a, b, f} {
		clear(l[:cap(l)])
		_ = append(l, 1, 2, 3, 4)
	}
	unchanged(t, m, was)
}

func TestWriteLeavesAndForgetsItsList(t *testing.T) {
	m := make3(t)
	room := []byte("abcdef")
	m.Write(8, room[:3])
	if string(room) != "abcdef" {
		t.Error("changed", room)
	}
	copy(room, "xyz")
	if b, _ := m.Read(8, 4); string(b) != "abc\x00" {
		t.Error("kept", b)
	}
}
