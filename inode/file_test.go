package inode_test

import (
	"bytes"
	"math"
	"slices"
	"testing"

	"parapet/api"
	"parapet/inode"
)

// P17.3

func TestReadOfAnEmptyOne(t *testing.T) {
	s := makeFile(t)
	for _, n := range []int{1, 2} {
		for _, at := range []int{0, 1, 512, api.MaxFileSize, math.MaxInt} {
			for _, count := range []int{0, 1, api.MaxFileSize + 1, math.MaxInt} {
				reads(t, s, n, at, count, nil)
			}
		}
	}
}

func TestRead(t *testing.T) {
	s := makeFile(t)
	all := text(1300)
	writes(t, s, 1, 0, all)
	for _, at := range []int{0, 1, 511, 512, 513, 1023, 1024, 1299, 1300, 1301, math.MaxInt} {
		for _, count := range []int{0, 1, 2, 511, 512, 513, 1025, 1299, 1300, 1301, math.MaxInt} {
			from := min(at, 1300)
			reads(t, s, 1, at, count, all[from:][:min(count, 1300-from)])
		}
	}
}

// Bytes behind the size are not told, whatever stands there.
func TestReadKeepsToTheSize(t *testing.T) {
	s := makeFile(t)
	writes(t, s, 1, 0, text(600))
	x, _ := inode.Get(s, example, 1)
	x.Size = 5
	puts(t, s, 1, x)
	reads(t, s, 1, 0, 600, text(5))
	reads(t, s, 1, 4, 2, text(5)[4:])
	reads(t, s, 1, 5, 1, nil)
}

func TestReadOfBelow(t *testing.T) {
	s := makeFile(t)
	writes(t, s, 1, 0, text(600))
	was := s.image()
	s.forget()
	for _, x := range [][2]int{{-1, 0}, {0, -1}, {-1, -1}, {math.MinInt, 5}, {5, math.MinInt}, {-5, 10}, {math.MinInt, math.MinInt}, {math.MaxInt, -1}} {
		for _, n := range []int{1, 2} {
			if b, e := inode.Read(s, example, n, x[0], x[1]); b != nil || e != api.ErrRange {
				t.Error("Read", n, x, b, e)
			}
		}
	}
	s.same(t, was)
}

// An answer is new memory, also where a store hands out its own.
func TestReadIsACopy(t *testing.T) {
	s := makeFile(t)
	writes(t, s, 1, 0, text(600))
	s.inner = true
	was := s.image()
	for _, count := range []int{600, 100} {
		b, _ := inode.Read(s, example, 1, 0, count)
		clear(b[:cap(b)])
	}
	s.changed(t, was)
	reads(t, s, 1, 0, 600, text(600))
}

func TestWrite(t *testing.T) {
	s := makeFile(t)
	was := s.image()
	b := text(5)
	writes(t, s, 1, 3, b)
	if !bytes.Equal(b, text(5)) {
		t.Error("b has changed")
	}
	clear(b)
	s.changed(t, was, 9, bitmapBlock, 12)
	want := make([]byte, size)
	copy(want[3:], text(5))
	if !bytes.Equal(s.blocks[12], want) {
		t.Error("block 12", s.blocks[12])
	}
	reads(t, s, 1, 0, 100, want[:8])
	gets(t, s, 1, api.Inode{Kind: api.InodeFile, Size: 8, Blocks: [13]int{12}})
	uses(t, s, 12)
	// Within the size: the inode and the bitmap stay.
	was = s.image()
	s.forget()
	writes(t, s, 1, 4, []byte("xy"))
	s.changed(t, was, 12)
	if !slices.Equal(s.writes, []int{12}) {
		t.Error("written", s.writes)
	}
	reads(t, s, 1, 0, 100, []byte{0, 0, 0, 1, 'x', 'y', text(5)[3], text(5)[4]})
	gets(t, s, 1, api.Inode{Kind: api.InodeFile, Size: 8, Blocks: [13]int{12}})
	// At its end.
	writes(t, s, 1, 8, []byte("z"))
	gets(t, s, 1, api.Inode{Kind: api.InodeFile, Size: 9, Blocks: [13]int{12}})
}

func TestWriteOfADirectory(t *testing.T) {
	s := make1(t)
	puts(t, s, 4, api.Inode{Kind: api.InodeDir, Links: 1})
	writes(t, s, 4, 0, text(16))
	reads(t, s, 4, 0, 16, text(16))
	gets(t, s, 4, api.Inode{Kind: api.InodeDir, Links: 1, Size: 16, Blocks: [13]int{12}})
}

func TestWriteOfNothing(t *testing.T) {
	s := makeFile(t)
	was := s.image()
	s.forget()
	for _, b := range [][]byte{nil, {}} {
		writes(t, s, 1, 0, b)
	}
	s.same(t, was)
	writes(t, s, 1, 700, nil)
	gets(t, s, 1, api.Inode{Kind: api.InodeFile, Size: 700})
	writes(t, s, 1, 600, nil)
	gets(t, s, 1, api.Inode{Kind: api.InodeFile, Size: 700})
	writes(t, s, 1, api.MaxFileSize, nil)
	gets(t, s, 1, api.Inode{Kind: api.InodeFile, Size: api.MaxFileSize})
	reads(t, s, 1, 0, api.MaxFileSize, make([]byte, api.MaxFileSize))
	uses(t, s)
}

func TestWriteAcrossBlocks(t *testing.T) {
	for _, at := range []int{0, 1, 510, 511, 512, 513} {
		for _, count := range []int{1, 2, 511, 512, 513, 1024, 1025, 1535} {
			s := makeFile(t)
			writes(t, s, 1, at, text(count))
			want := append(make([]byte, at), text(count)...)
			reads(t, s, 1, 0, 4000, want)
			from, to := at/size, (at+count-1)/size
			has(t, s, 1, rising(12, to-from+1)...)
			// What stands beside it stays.
			writes(t, s, 1, 0, bytes.Repeat([]byte{'x'}, 3000))
			writes(t, s, 1, at, text(count))
			want = bytes.Repeat([]byte{'x'}, 3000)
			copy(want[at:], text(count))
			reads(t, s, 1, 0, 4000, want)
		}
	}
}

func TestWriteBeyond(t *testing.T) {
	s := makeFile(t)
	writes(t, s, 1, 0, text(600))
	was := s.image()
	s.forget()
	for _, x := range []struct{ at, count int }{
		{-1, 0}, {-1, 5}, {math.MinInt, 0}, {math.MinInt, 5}, {api.MaxFileSize, 1}, {api.MaxFileSize + 1, 0}, {api.MaxFileSize - 4, 5},
		{0, api.MaxFileSize + 1}, {1, api.MaxFileSize}, {math.MaxInt, 0}, {math.MaxInt, 1}, {math.MaxInt, api.MaxFileSize}, {math.MinInt, 2 * api.MaxFileSize}, {-5, 2 * api.MaxFileSize},
	} {
		if e := inode.Write(s, example, 1, x.at, text(x.count)); e != api.ErrRange {
			t.Error("Write", x, e)
		}
		if e := inode.Write(s, example, 2, x.at, text(x.count)); e != api.ErrInode {
			t.Error("Write of a free one", x, e)
		}
	}
	s.same(t, was)
	writes(t, s, 1, api.MaxFileSize-5, text(5))
	reads(t, s, 1, api.MaxFileSize-6, 100, append([]byte{0}, text(5)...))
}

func TestWriteOfAFreeOne(t *testing.T) {
	s := makeFile(t)
	was := s.image()
	s.forget()
	for _, b := range [][]byte{nil, {1}, make([]byte, 100*size)} {
		if e := inode.Write(s, example, 2, 0, b); e != api.ErrInode {
			t.Error("Write", len(b), e)
		}
	}
	for _, n := range []int{0, 1, -1, api.MaxFileSize + 1} {
		if e := inode.Truncate(s, example, 2, n); e != api.ErrInode {
			t.Error("Truncate", n, e)
		}
	}
	s.same(t, was)
}

// The block for numbers comes ahead of the first one that stands in it, and has the others' numbers.
func TestWriteOfTheGreatest(t *testing.T) {
	s := makeFile(t)
	b := text(api.MaxFileSize)
	writes(t, s, 1, 0, b)
	reads(t, s, 1, 0, api.MaxFileSize+1, b)
	has(t, s, 1, append(append(rising(12, 12), rising(25, 20)...), 24)...)
	uses(t, s, rising(12, 33)...)
	x := api.Inode{Kind: api.InodeFile, Size: api.MaxFileSize}
	for i := range x.Blocks {
		x.Blocks[i] = 12 + i
	}
	gets(t, s, 1, x)
	var words []byte
	for _, n := range rising(25, 20) {
		words = append(words, word(n)...)
	}
	if want := append(words, make([]byte, size-80)...); !bytes.Equal(s.blocks[24], want) {
		t.Error("numbers", s.blocks[24])
	}
}

func TestWriteOfBlocksInAnyOrder(t *testing.T) {
	s := makeFile(t)
	for i, k := range []int{13, 0, 31, 12, 5, 11} {
		writes(t, s, 1, k*size+7, []byte{byte(k)})
		want := [][]int{{13, 12}, {14, 13, 12}, {14, 13, 15, 12}, {14, 16, 13, 15, 12}, {14, 17, 16, 13, 15, 12}, {14, 17, 18, 16, 13, 15, 12}}[i]
		has(t, s, 1, want...)
	}
	all := make([]byte, 31*size+8)
	for _, k := range []int{13, 0, 31, 12, 5, 11} {
		all[k*size+7] = byte(k)
	}
	reads(t, s, 1, 0, api.MaxFileSize, all)
}

func TestWriteTakesTheLeastFree(t *testing.T) {
	s := make1(t)
	for n := 1; n <= 3; n++ {
		allocs(t, s, api.InodeFile, n)
		writes(t, s, n, 0, text(2*size))
	}
	frees(t, s, 2)
	truncates(t, s, 1, size)
	uses(t, s, 12, 16, 17)
	writes(t, s, 3, 11*size, text(3*size))
	has(t, s, 3, 16, 17, 13, 15, 18, 14)
	// A new block is zeros where nothing is written.
	writes(t, s, 1, 5*size+100, []byte{9})
	has(t, s, 1, 12, 19)
	reads(t, s, 1, 5*size, 101, append(make([]byte, 100), 9))
	frees(t, s, 3)
	writes(t, s, 1, 3*size+100, []byte{8})
	has(t, s, 1, 12, 13, 19)
	want := make([]byte, size)
	want[100] = 8
	reads(t, s, 1, 3*size, size, want)
}

func TestNoSpace(t *testing.T) {
	// Nine data blocks, from 7 on.
	l := api.Layout{Sectors: 16, Log: 4, Inodes: 2}
	for _, x := range []struct {
		at, count int
		ok        bool
	}{
		{0, 9 * size, true}, {0, 9*size + 1, false}, {1, 9 * size, false}, {0, 10 * size, false}, {511, 8*size + 1, true},
		{12 * size, 8 * size, true}, {12 * size, 8*size + 1, false}, {12*size - 1, 7*size + 2, false}, {12*size - 1, 7*size + 1, true},
		{7 * size, 8 * size, true}, {7 * size, 8*size + 1, false}, {0, 32 * size, false}, {31 * size, size, true},
	} {
		s := make2(t, l)
		if n, e := inode.Alloc(s, l, api.InodeFile); n != 1 || e != api.OK {
			t.Fatal("Alloc", n, e)
		}
		was := s.image()
		s.forget()
		e := inode.Write(s, l, 1, x.at, text(x.count))
		if x.ok != (e == api.OK) || !x.ok && e != api.ErrSpace {
			t.Error("Write", x, e)
		}
		if !x.ok {
			s.same(t, was)
		}
		n, _ := inode.Used(s, l)
		all, _ := inode.Blocks(s, l, 1)
		if n != len(all) || !x.ok && n != 0 {
			t.Error("Used", n, all)
		}
	}
}

// What is there already needs no block, and the bitmap's bits behind the disk's end are no blocks.
func TestWriteWhereNoneIsFree(t *testing.T) {
	l := api.Layout{Sectors: 16, Log: 4, Inodes: 2}
	s := make2(t, l)
	inode.Alloc(s, l, api.InodeFile)
	if e := inode.Write(s, l, 1, size, text(9*size)); e != api.OK {
		t.Error("Write", e)
	}
	was := s.image()
	s.forget()
	for _, at := range []int{0, size - 1, 10*size - 1, 10 * size, 12 * size} {
		if e := inode.Write(s, l, 1, at, []byte{1, 1}); e != api.ErrSpace {
			t.Error("Write", at, e)
		}
	}
	s.same(t, was)
	if e := inode.Write(s, l, 1, size, text(9 * size)[1:]); e != api.OK {
		t.Error("Write", e)
	}
	if b, e := inode.Read(s, l, 1, size, 20); !bytes.Equal(b, text(21)[1:]) || e != api.OK {
		t.Error("Read", b, e)
	}
	if e := inode.Write(s, l, 1, 20*size, nil); e != api.OK {
		t.Error("Write", e)
	}
}

// All 4096 blocks have a bit.
func TestGreatestDisk(t *testing.T) {
	l := api.Layout{Sectors: 4096, Log: 248, Inodes: 512}
	s := make2(t, l)
	left := 3782
	for n := 1; left > 0; n++ {
		if x, e := inode.Alloc(s, l, api.InodeFile); x != n || e != api.OK {
			t.Fatal("Alloc", x, e)
		}
		count := min(left, 12)
		if e := inode.Write(s, l, n, 0, text(count*size)); e != api.OK {
			t.Fatal("Write", n, e)
		}
		if all, e := inode.Blocks(s, l, n); !slices.Equal(all, rising(4096-left, count)) || e != api.OK {
			t.Fatal("Blocks", n, all, e)
		}
		left -= count
	}
	if n, e := inode.Used(s, l); n != 3782 || e != api.OK {
		t.Error("Used", n, e)
	}
	if x, e := inode.Alloc(s, l, api.InodeFile); x != 317 || e != api.OK {
		t.Error("Alloc", x, e)
	}
	if e := inode.Write(s, l, 317, 0, []byte{1}); e != api.ErrSpace {
		t.Error("Write", e)
	}
}

func TestTruncate(t *testing.T) {
	for _, was := range []int{0, 1, 511, 512, 513, 1024, 6000, 6144, 6145, 6656, 7000, api.MaxFileSize} {
		for _, to := range []int{0, 1, 511, 512, 513, 1023, 1024, 1025, 5999, 6143, 6144, 6145, 6656, 6657, 16383, api.MaxFileSize} {
			s := makeFile(t)
			writes(t, s, 1, 0, text(was))
			before, _ := inode.Blocks(s, example, 1)
			truncates(t, s, 1, to)
			want := append(text(min(was, to)), make([]byte, max(0, to-was))...)
			reads(t, s, 1, 0, api.MaxFileSize, want)
			if to < was {
				before = standing(before, to)
			}
			has(t, s, 1, before...)
			slices.Sort(before)
			uses(t, s, before...)
			// What went is not there again.
			truncates(t, s, 1, api.MaxFileSize)
			reads(t, s, 1, 0, api.MaxFileSize, append(want, make([]byte, api.MaxFileSize-to)...))
		}
	}
}

// standing is what is left of a file's blocks, which has no holes.
func standing(l []int, to int) []int {
	blocks := (to + size - 1) / size
	if blocks > 12 {
		return append(slices.Clone(l[:blocks]), l[len(l)-1])
	}
	return slices.Clone(l[:blocks])
}

func TestTruncateOfWhat(t *testing.T) {
	s := makeFile(t)
	writes(t, s, 1, 0, text(16*size))
	// Blocks that go keep their bytes, and so does the one for numbers as long as none that stands in it goes.
	was := s.image()
	truncates(t, s, 1, 14*size+5)
	s.changed(t, was, 9, bitmapBlock, 24, 27)
	if !bytes.Equal(s.blocks[27], append(text(16 * size)[14*size:][:5], make([]byte, size-5)...)) || !bytes.Equal(s.blocks[24][8:20], append(word(27), make([]byte, 8)...)) {
		t.Error("blocks 27 and 24", s.blocks[27], s.blocks[24])
	}
	uses(t, s, rising(12, 16)...)
	was = s.image()
	truncates(t, s, 1, 14*size+5)
	s.changed(t, was)
	// The one for numbers goes with the last one that stands in it, and keeps its bytes.
	truncates(t, s, 1, 12*size)
	s.changed(t, was, 9, bitmapBlock)
	uses(t, s, rising(12, 12)...)
	was = s.image()
	truncates(t, s, 1, 12*size-512)
	s.changed(t, was, 9, bitmapBlock)
	was = s.image()
	truncates(t, s, 1, 10*size+1)
	s.changed(t, was, 9, 22)
}

func TestTruncateOfHoles(t *testing.T) {
	s := makeFile(t)
	writes(t, s, 1, 3*size+5, []byte{1})
	writes(t, s, 1, 20*size+5, []byte{2})
	writes(t, s, 1, 30*size+5, []byte{3})
	has(t, s, 1, 12, 14, 15, 13)
	was := s.image()
	truncates(t, s, 1, 25*size+7)
	s.changed(t, was, 9, bitmapBlock, 13)
	has(t, s, 1, 12, 14, 13)
	was = s.image()
	s.forget()
	truncates(t, s, 1, 22*size)
	s.changed(t, was, 9)
	if !slices.Equal(s.writes, []int{9}) {
		t.Error("written", s.writes)
	}
	// In the midst of a hole: nothing stands in the block for numbers behind it.
	truncates(t, s, 1, 15*size+7)
	s.changed(t, was, 9, bitmapBlock)
	has(t, s, 1, 12)
	was = s.image()
	truncates(t, s, 1, 2*size+1)
	s.changed(t, was, 9, bitmapBlock)
	has(t, s, 1)
	uses(t, s)
	reads(t, s, 1, 0, api.MaxFileSize, make([]byte, 2*size+1))
}

func TestTruncateTwice(t *testing.T) {
	s := makeFile(t)
	writes(t, s, 1, 0, text(700))
	truncates(t, s, 1, 300)
	writes(t, s, 1, 400, []byte{7})
	reads(t, s, 1, 0, 600, slices.Concat(text(300), make([]byte, 100), []byte{7}))
	truncates(t, s, 1, 600)
	reads(t, s, 1, 0, 600, slices.Concat(text(300), make([]byte, 100), []byte{7}, make([]byte, 199)))
}

// Greater, it changes the size alone, whatever stands behind it.
func TestTruncateToMore(t *testing.T) {
	s := makeFile(t)
	writes(t, s, 1, 0, text(20*size))
	x, _ := inode.Get(s, example, 1)
	for _, to := range []int{5, 5, 6, 511, 15 * size, api.MaxFileSize} {
		x.Size = 5
		puts(t, s, 1, x)
		was := s.image()
		truncates(t, s, 1, to)
		x.Size = to
		gets(t, s, 1, x)
		if to == 5 {
			s.changed(t, was)
		} else {
			s.changed(t, was, 9)
		}
	}
	reads(t, s, 1, 0, 20*size, text(20*size))
}

// A block for numbers that stands alone goes, too.
func TestTruncateOfNoNumbers(t *testing.T) {
	s := makeFile(t)
	writes(t, s, 1, 15*size, []byte{1})
	clear(s.blocks[12])
	truncates(t, s, 1, 14*size)
	has(t, s, 1)
	uses(t, s, 13)
}

func TestTruncateBeyond(t *testing.T) {
	s := makeFile(t)
	writes(t, s, 1, 0, text(600))
	was := s.image()
	s.forget()
	for _, n := range append([]int{api.MaxFileSize + 1}, odd...) {
		if e := inode.Truncate(s, example, 1, n); e != api.ErrRange {
			t.Error("Truncate", n, e)
		}
	}
	s.same(t, was)
}

// P17.4

func TestBlocks(t *testing.T) {
	s := makeFile(t)
	has(t, s, 1)
	has(t, s, 2)
	puts(t, s, 3, api.Inode{Kind: api.InodeDir, Blocks: [13]int{30, 0, 29, 11: 12, 12: 63}})
	clear(s.blocks[63])
	has(t, s, 3, 30, 29, 12, 63)
	copy(s.blocks[63], slices.Concat(word(0), word(40), word(0), word(13)))
	copy(s.blocks[63][76:], word(62))
	// Behind the last block that a file can have there are no numbers.
	copy(s.blocks[63][80:], word(55))
	has(t, s, 3, 30, 29, 12, 40, 13, 62, 63)
	l, _ := inode.Blocks(s, example, 3)
	clear(l[:cap(l)])
	has(t, s, 3, 30, 29, 12, 40, 13, 62, 63)
}

// A word that is no data block's number is that of an inode that may not be, for whoever needs it.
func TestNumbersThatMayNotBe(t *testing.T) {
	for _, x := range []int{1, 9, bitmapBlock, 64, 255, 4096, 65536, 1 << 31, 1<<32 - 1} {
		s := makeFile(t)
		writes(t, s, 1, 0, text(20*size))
		copy(s.blocks[24][5*4:], word(x))
		was := s.image()
		s.forget()
		b, e := inode.Read(s, example, 1, 17*size-1, 2)
		l, e1 := inode.Blocks(s, example, 1)
		if b != nil || l != nil || e != api.ErrInode || e1 != e {
			t.Error("Read, Blocks", x, b, l, e, e1)
		}
		for _, e := range []api.Errno{
			inode.Write(s, example, 1, 17*size-1, []byte{1, 1}), inode.Free(s, example, 1),
			inode.Truncate(s, example, 1, 0), inode.Truncate(s, example, 1, 17*size+1), inode.Truncate(s, example, 1, 18*size+1),
		} {
			if e != api.ErrInode {
				t.Error("Write, Free or Truncate", x, e)
			}
		}
		s.same(t, was)
		reads(t, s, 1, 0, 17*size, text(17*size))
		reads(t, s, 1, 18*size, 2*size, text(20 * size)[18*size:])
	}
}

func TestUsed(t *testing.T) {
	s := make1(t)
	uses(t, s)
	// Bits of blocks ahead of the data blocks, and behind the disk's end, do not count.
	for i := range s.blocks[bitmapBlock] {
		s.blocks[bitmapBlock][i] = 0xff
	}
	if n, e := inode.Used(s, example); n != 52 || e != api.OK {
		t.Error("Used", n, e)
	}
	clear(s.blocks[bitmapBlock][1:8])
	if n, e := inode.Used(s, example); n != 0 || e != api.OK {
		t.Error("Used", n, e)
	}
	s.blocks[bitmapBlock][1] = 0x10
	s.blocks[bitmapBlock][7] = 0x80
	if n, e := inode.Used(s, example); n != 2 || e != api.OK {
		t.Error("Used", n, e)
	}
}

func TestTouches(t *testing.T) {
	for _, x := range []struct{ at, count, want int }{
		{0, 0, 3}, {5, 0, 3}, {512, 0, 3}, {api.MaxFileSize, 0, 3}, {0, 1, 4}, {511, 1, 4}, {511, 2, 5}, {512, 512, 4}, {0, 512, 4}, {0, 513, 5}, {1, 512, 5},
		{0, api.MaxFileSize, 35}, {1, api.MaxFileSize - 1, 35}, {511, api.MaxFileSize - 1022, 35}, {api.MaxFileSize - 1, 1, 4}, {6000, 1000, 6},
		{-1, 0, 0}, {0, -1, 0}, {-1, 1, 0}, {1, -1, 0}, {api.MaxFileSize, 1, 0}, {api.MaxFileSize + 1, 0, 0}, {0, api.MaxFileSize + 1, 0}, {1, api.MaxFileSize, 0},
		{math.MaxInt, math.MaxInt, 0}, {math.MaxInt, 1, 0}, {1, math.MaxInt, 0}, {math.MinInt, math.MaxInt, 0}, {math.MinInt, math.MinInt, 0}, {0, math.MaxInt, 0}, {math.MaxInt, 0, 0},
	} {
		if n := inode.Touches(x.at, x.count); n != x.want {
			t.Error("Touches", x, n)
		}
	}
}

// A Write writes at most so many blocks, and each once.
func TestWriteTouches(t *testing.T) {
	for _, at := range []int{0, 1, 511, 512, 5000, 6143, 6144, 9000} {
		for _, count := range []int{0, 1, 512, 513, 2000, 7000} {
			for _, had := range []int{0, 300, 6144, 8000} {
				s := makeFile(t)
				writes(t, s, 1, 0, text(had))
				s.forget()
				writes(t, s, 1, at, text(count))
				slices.Sort(s.writes)
				if n := len(s.writes); n > inode.Touches(at, count) || n != len(slices.Compact(s.writes)) {
					t.Error("Write", at, count, had, s.writes)
				}
			}
		}
	}
}

// The most is reached.
func TestWriteTouchesAll(t *testing.T) {
	s := makeFile(t)
	writes(t, s, 1, 13*size, text(size))
	if n := len(s.writes) - 1; n != inode.Touches(13*size, size) {
		t.Error("Touches", s.writes)
	}
}
