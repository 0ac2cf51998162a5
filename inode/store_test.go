package inode_test

import (
	"bytes"
	"math"
	"slices"
	"testing"

	"parapet/api"
	"parapet/inode"
)

const size = api.SectorSize

// odd are numbers that no part of a layout, no inode, no place and no kind has.
var odd = []int{math.MinInt, math.MinInt + 1, math.MinInt32, -65536, -512, -1, 65536, math.MaxInt32, math.MaxInt32 + 1, math.MaxInt - 511, math.MaxInt}

// refused is an error that no layer tells by itself.
const refused = api.Errno(777)

// store is blocks in memory, which tells what was asked of it, and refuses what it is told to.
type store struct {
	blocks  [][]byte
	reads   []int
	writes  []int
	left    int  // operations up to the one that is refused; below 0: none is
	forever bool // all behind it are refused, too
	inner   bool // it answers its own memory
}

// makeStore is so many blocks, of bytes n of block n: nothing is zeros that ought to be made so.
func makeStore(count int) *store {
	s := &store{left: -1}
	for n := range count {
		s.blocks = append(s.blocks, bytes.Repeat([]byte{byte(n | 1)}, size))
	}
	return s
}

func (s *store) refuses(n int) api.Errno {
	if s.left == 0 {
		if !s.forever {
			s.left--
		}
		return refused
	}
	if s.left > 0 {
		s.left--
	}
	if n < 0 || n >= len(s.blocks) {
		return api.ErrSector
	}
	return api.OK
}

func (s *store) Read(n int) ([]byte, api.Errno) {
	s.reads = append(s.reads, n)
	if e := s.refuses(n); e != api.OK {
		return nil, e
	}
	if s.inner {
		return s.blocks[n], api.OK
	}
	return bytes.Clone(s.blocks[n]), api.OK
}

func (s *store) Write(n int, b []byte) api.Errno {
	s.writes = append(s.writes, n)
	if e := s.refuses(n); e != api.OK {
		return e
	}
	if len(b) != size {
		return api.ErrArg
	}
	copy(s.blocks[n], b)
	return api.OK
}

// image is a copy of all blocks.
func (s *store) image() [][]byte {
	var l [][]byte
	for _, b := range s.blocks {
		l = append(l, bytes.Clone(b))
	}
	return l
}

// forget forgets what was asked of it.
func (s *store) forget() {
	s.reads, s.writes = nil, nil
}

// same holds that no block has changed, and none was written.
func (s *store) same(t *testing.T, was [][]byte) {
	t.Helper()
	s.changed(t, was)
	if len(s.writes) != 0 {
		t.Error("written", s.writes)
	}
}

// changed holds which blocks have changed, rising.
func (s *store) changed(t *testing.T, was [][]byte, want ...int) {
	t.Helper()
	var l []int
	for n, b := range s.blocks {
		if !bytes.Equal(b, was[n]) {
			l = append(l, n)
		}
	}
	if !slices.Equal(l, want) {
		t.Errorf("changed: %v, not %v", l, want)
	}
}

// example is the chapter's: inodes in blocks 9 and 10, the bitmap is block 11, data from 12 on.
var example = api.Layout{Sectors: 64, Log: 8, Inodes: 16}

const (
	bitmapBlock = 11
	firstData   = 12
)

// make1 is a store that was formatted as the example.
func make1(t *testing.T) *store {
	t.Helper()
	return make2(t, example)
}

func make2(t *testing.T, l api.Layout) *store {
	t.Helper()
	s := makeStore(l.Sectors)
	if e := inode.Format(s, l); e != api.OK {
		t.Fatal("Format", l, e)
	}
	s.forget()
	return s
}

// makeFile is one with an inode of a file, which has number 1.
func makeFile(t *testing.T) *store {
	t.Helper()
	s := make1(t)
	allocs(t, s, api.InodeFile, 1)
	return s
}

func allocs(t *testing.T, s *store, kind, want int) {
	t.Helper()
	if n, e := inode.Alloc(s, example, kind); n != want || e != api.OK {
		t.Error("Alloc", kind, n, e, "not", want)
	}
}

func puts(t *testing.T, s *store, n int, x api.Inode) {
	t.Helper()
	if e := inode.Put(s, example, n, x); e != api.OK {
		t.Error("Put", n, x, e)
	}
}

func gets(t *testing.T, s *store, n int, want api.Inode) {
	t.Helper()
	if x, e := inode.Get(s, example, n); x != want || e != api.OK {
		t.Error("Get", n, x, e, "not", want)
	}
}

func reads(t *testing.T, s *store, n, at, count int, want []byte) {
	t.Helper()
	if b, e := inode.Read(s, example, n, at, count); !bytes.Equal(b, want) || e != api.OK {
		t.Errorf("Read %d %d %d: %d bytes %x, %d", n, at, count, len(b), b, e)
	}
}

func writes(t *testing.T, s *store, n, at int, b []byte) {
	t.Helper()
	if e := inode.Write(s, example, n, at, b); e != api.OK {
		t.Error("Write", n, at, len(b), e)
	}
}

func truncates(t *testing.T, s *store, n, size int) {
	t.Helper()
	if e := inode.Truncate(s, example, n, size); e != api.OK {
		t.Error("Truncate", n, size, e)
	}
}

func frees(t *testing.T, s *store, n int) {
	t.Helper()
	if e := inode.Free(s, example, n); e != api.OK {
		t.Error("Free", n, e)
	}
}

// has holds an inode's blocks.
func has(t *testing.T, s *store, n int, want ...int) {
	t.Helper()
	if l, e := inode.Blocks(s, example, n); !slices.Equal(l, want) || e != api.OK {
		t.Errorf("Blocks %d: %v, %d, not %v", n, l, e, want)
	}
}

// uses holds which data blocks are used, and that those ahead of them are.
func uses(t *testing.T, s *store, want ...int) {
	t.Helper()
	var l []int
	for n := range example.Sectors {
		used := s.blocks[bitmapBlock][n/8]>>(n%8)&1 == 1
		if used && n >= firstData {
			l = append(l, n)
		}
		if !used && n < firstData {
			t.Error("not used:", n)
		}
	}
	if !slices.Equal(l, want) {
		t.Errorf("used: %v, not %v", l, want)
	}
	if n, e := inode.Used(s, example); n != len(want) || e != api.OK {
		t.Error("Used", n, e, "not", len(want))
	}
}

// text is so many bytes, none of which is 0, which differ from block to block.
func text(n int) []byte {
	b := make([]byte, n)
	for i := range b {
		b[i] = byte(1 + i*7%251 + i/size%4)
	}
	return b
}

// rising is so many numbers from one on.
func rising(from, count int) []int {
	var l []int
	for i := range count {
		l = append(l, from+i)
	}
	return l
}

// word is a number's bytes.
func word(x int) []byte {
	return []byte{byte(x), byte(x >> 8), byte(x >> 16), byte(x >> 24)}
}
