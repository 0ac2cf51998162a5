package inode_test

import (
	"bytes"
	"slices"
	"testing"

	"parapet/api"
	"parapet/inode"
)

// full is an inode each of whose parts has more than one byte that is not 0, of a layout of many sectors.
var (
	great = api.Layout{Sectors: 4096, Log: 8, Inodes: 20}
	full  = api.Inode{Kind: api.InodeDir, Links: 0xfedc, Size: 0x3a5b, Blocks: [13]int{0xa01, 0xb02, 0xc03, 0xd04, 0, 0xe06, 0xf07, 0xfff, 0x10a, 0x20b, 0x30c, 13, 0x40d}}
)

// fullBytes is its bytes, which the chapter tells.
func fullBytes() []byte {
	b := []byte{2, 0, 0xdc, 0xfe, 0x5b, 0x3a, 0, 0}
	for _, n := range full.Blocks {
		b = append(b, word(n)...)
	}
	return append(b, 0, 0, 0, 0)
}

// P17.2

func TestPut(t *testing.T) {
	s := make2(t, great)
	for n := 9; n <= 11; n++ {
		s.blocks[n] = bytes.Repeat([]byte{0xaa}, size)
	}
	want := s.image()
	for n := 1; n <= great.Inodes; n++ {
		s.forget()
		if e := inode.Put(s, great, n, full); e != api.OK {
			t.Error("Put", n, e)
		}
		block, at := 9+(n-1)/8, (n-1)%8*64
		copy(want[block][at:], fullBytes())
		s.changed(t, want)
		if !slices.Equal(s.writes, []int{block}) {
			t.Error("written", s.writes)
		}
		if x, e := inode.Get(s, great, n); x != full || e != api.OK {
			t.Error("Get", n, x, e)
		}
	}
	if e := inode.Put(s, great, 3, api.Inode{}); e != api.OK {
		t.Error("Put", e)
	}
	clear(want[9][128:192])
	s.changed(t, want)
}

// edges are inodes that just may be.
func edges() []api.Inode {
	l := []api.Inode{
		{}, {Kind: api.InodeFile}, {Kind: api.InodeDir}, {Kind: api.InodeFile, Links: 65535}, {Kind: api.InodeDir, Links: 1},
		{Kind: api.InodeFile, Size: api.MaxFileSize}, {Kind: api.InodeDir, Size: 1},
	}
	for i := range 13 {
		for _, n := range []int{firstData, example.Sectors - 1} {
			x := api.Inode{Kind: api.InodeFile}
			x.Blocks[i] = n
			l = append(l, x)
		}
	}
	return l
}

// beyond are inodes that may not be.
func beyond() []api.Inode {
	l := []api.Inode{
		{Kind: 3}, {Kind: api.InodeFile, Links: 65536}, {Kind: api.InodeFile, Size: api.MaxFileSize + 1},
		{Links: 1}, {Size: 1}, {Kind: 256}, {Kind: 257},
	}
	for _, n := range odd {
		l = append(l, api.Inode{Kind: n}, api.Inode{Kind: api.InodeFile, Links: n}, api.Inode{Kind: api.InodeFile, Size: n})
	}
	for i := range 13 {
		x := api.Inode{Kind: api.InodeFree}
		x.Blocks[i] = firstData
		l = append(l, x)
		for _, n := range slices.Concat([]int{1, 9, bitmapBlock, example.Sectors, 4096, 1<<32 + firstData}, odd) {
			x := api.Inode{Kind: api.InodeFile}
			x.Blocks[i] = n
			l = append(l, x)
		}
	}
	return l
}

func TestPutAtTheEdges(t *testing.T) {
	s := make1(t)
	for _, x := range edges() {
		puts(t, s, 5, x)
		gets(t, s, 5, x)
	}
	gets(t, s, 4, api.Inode{})
	gets(t, s, 6, api.Inode{})
}

func TestPutOfWhatMayNotBe(t *testing.T) {
	s := make1(t)
	was := s.image()
	for _, x := range beyond() {
		if e := inode.Put(s, example, 5, x); e != api.ErrInode {
			t.Error("Put", x, e)
		}
	}
	s.same(t, was)
}

func TestNoSuchInode(t *testing.T) {
	s := make1(t)
	was := s.image()
	for _, n := range append([]int{0, 17, 24, 25}, odd...) {
		x, e := inode.Get(s, example, n)
		b, e1 := inode.Read(s, example, n, -1, -1)
		l, e2 := inode.Blocks(s, example, n)
		if x != (api.Inode{}) || b != nil || l != nil || e != api.ErrInode || e1 != e || e2 != e {
			t.Error("Get, Read, Blocks", n, x, b, l, e, e1, e2)
		}
		for _, e := range []api.Errno{
			inode.Put(s, example, n, api.Inode{}), inode.Free(s, example, n),
			inode.Write(s, example, n, -1, nil), inode.Truncate(s, example, n, -1),
		} {
			if e != api.ErrInode {
				t.Error("Put, Free, Write or Truncate", n, e)
			}
		}
	}
	s.same(t, was)
	if len(s.reads) != 0 {
		t.Error("read", s.reads)
	}
}

// Bytes of no inode that may be are told by all that asks for it.
func TestGetOfWhatMayNotBe(t *testing.T) {
	wrong := map[int][]byte{0: {3, 255}, 1: {1, 128}, 6: {1}, 7: {1}, 5: {0x41}, 60: {1}, 61: {1}, 62: {1}, 63: {128}}
	for i := range 13 {
		wrong[8+4*i] = []byte{1, bitmapBlock, 64, 255}
		wrong[9+4*i], wrong[10+4*i], wrong[11+4*i] = []byte{1}, []byte{1}, []byte{1, 128}
	}
	for at, l := range wrong {
		for _, x := range l {
			s := makeFile(t)
			puts(t, s, 3, api.Inode{Kind: api.InodeFile, Links: 3, Size: 100, Blocks: [13]int{12}})
			s.blocks[9][128+at] = x
			was := s.image()
			s.forget()
			asks(t, s, 3)
			s.same(t, was)
			gets(t, s, 1, api.Inode{Kind: api.InodeFile})
			gets(t, s, 4, api.Inode{})
		}
	}
}

// asks asks for an inode that may not be.
func asks(t *testing.T, s *store, n int) {
	t.Helper()
	if x, e := inode.Get(s, example, n); x != (api.Inode{}) || e != api.ErrInode {
		t.Error("Get", x, e)
	}
	if b, e := inode.Read(s, example, n, -1, 1); b != nil || e != api.ErrInode {
		t.Error("Read", b, e)
	}
	if l, e := inode.Blocks(s, example, n); l != nil || e != api.ErrInode {
		t.Error("Blocks", l, e)
	}
	for _, e := range []api.Errno{inode.Free(s, example, n), inode.Write(s, example, n, -1, []byte{1}), inode.Truncate(s, example, n, -1)} {
		if e != api.ErrInode {
			t.Error("Free, Write or Truncate", e)
		}
	}
}

func TestGetOfAFreeOneThatHasBytes(t *testing.T) {
	for at := 1; at < 64; at++ {
		s := make1(t)
		s.blocks[9][128+at] = 1
		asks(t, s, 3)
	}
}

func TestAlloc(t *testing.T) {
	s := make1(t)
	puts(t, s, 2, api.Inode{Kind: api.InodeFile, Links: 7})
	allocs(t, s, api.InodeDir, 1)
	allocs(t, s, api.InodeFile, 3)
	gets(t, s, 1, api.Inode{Kind: api.InodeDir})
	gets(t, s, 2, api.Inode{Kind: api.InodeFile, Links: 7})
	gets(t, s, 3, api.Inode{Kind: api.InodeFile})
	gets(t, s, 4, api.Inode{})
	for n := 4; n <= 16; n++ {
		was := s.image()
		allocs(t, s, api.InodeFile, n)
		s.changed(t, was, 9+(n-1)/8)
	}
	was := s.image()
	s.forget()
	for _, kind := range []int{api.InodeFile, api.InodeDir} {
		if n, e := inode.Alloc(s, example, kind); n != 0 || e != api.ErrSpace {
			t.Error("Alloc", n, e)
		}
	}
	s.same(t, was)
	frees(t, s, 11)
	frees(t, s, 4)
	allocs(t, s, api.InodeDir, 4)
	allocs(t, s, api.InodeDir, 11)
	uses(t, s)
}

// A block of inodes has room for more of them than the layout has.
func TestAllocKeepsToTheLayout(t *testing.T) {
	l := api.Layout{Sectors: 16, Log: 4, Inodes: 3}
	s := make2(t, l)
	for want := 1; want <= 3; want++ {
		if n, e := inode.Alloc(s, l, api.InodeFile); n != want || e != api.OK {
			t.Error("Alloc", n, e)
		}
	}
	if n, e := inode.Alloc(s, l, api.InodeFile); n != 0 || e != api.ErrSpace {
		t.Error("Alloc", n, e)
	}
	if x, e := inode.Get(s, l, 4); x != (api.Inode{}) || e != api.ErrInode {
		t.Error("Get", x, e)
	}
}

func TestAllocOfNoKind(t *testing.T) {
	s := make1(t)
	was := s.image()
	for _, kind := range append([]int{api.InodeFree, 3, 257}, odd...) {
		if n, e := inode.Alloc(s, example, kind); n != 0 || e != api.ErrArg {
			t.Error("Alloc", kind, n, e)
		}
	}
	s.same(t, was)
}

// What may not be is not free.
func TestAllocPassesOverWhatMayNotBe(t *testing.T) {
	s := make1(t)
	s.blocks[9][0] = 3   // inode 1
	s.blocks[9][127] = 1 // inode 2
	allocs(t, s, api.InodeFile, 3)
}

func TestFree(t *testing.T) {
	s := make1(t)
	allocs(t, s, api.InodeFile, 1)
	allocs(t, s, api.InodeDir, 2)
	writes(t, s, 1, 0, text(6*size))
	writes(t, s, 2, 0, text(2*size))
	writes(t, s, 1, 12*size, text(3*size))
	has(t, s, 1, 12, 13, 14, 15, 16, 17, 21, 22, 23, 20)
	uses(t, s, rising(12, 12)...)
	was := s.image()
	frees(t, s, 1)
	s.changed(t, was, 9, bitmapBlock)
	gets(t, s, 1, api.Inode{})
	has(t, s, 1)
	uses(t, s, 18, 19)
	has(t, s, 2, 18, 19)
	reads(t, s, 2, 0, 2000, text(2*size))
	frees(t, s, 2)
	uses(t, s)
	was = s.image()
	frees(t, s, 2)
	s.changed(t, was)
}

// The blocks behind an inode's size, which Put left there, go with it.
func TestFreeOfBlocksBeyondTheSize(t *testing.T) {
	s := makeFile(t)
	writes(t, s, 1, 0, text(32*size))
	x, _ := inode.Get(s, example, 1)
	x.Size = 0
	puts(t, s, 1, x)
	frees(t, s, 1)
	uses(t, s)
}
