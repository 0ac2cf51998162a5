package inode_test

import (
	"bytes"
	"slices"
	"testing"

	"parapet/api"
	"parapet/inode"
)

// mayNot are layouts that may not be: a number alone is wrong, or what follows leaves no data block.
func mayNot() []api.Layout {
	l := []api.Layout{
		{}, {Sectors: 64}, {Log: 8}, {Inodes: 16},
		{Sectors: 15, Log: 4, Inodes: 8}, {Sectors: 4097, Log: 8, Inodes: 16},
		{Sectors: 64, Log: 3, Inodes: 16}, {Sectors: 1000, Log: 249, Inodes: 16},
		{Sectors: 64, Log: 8, Inodes: 1}, {Sectors: 1000, Log: 8, Inodes: 513},
		{Sectors: 16, Log: 13, Inodes: 2}, {Sectors: 16, Log: 12, Inodes: 9}, {Sectors: 64, Log: 8, Inodes: 425},
		{Sectors: 314, Log: 248, Inodes: 512}, {Sectors: 16, Log: 248, Inodes: 512},
	}
	for _, n := range odd {
		l = append(l, api.Layout{Sectors: n, Log: 8, Inodes: 16}, api.Layout{Sectors: 64, Log: n, Inodes: 16}, api.Layout{Sectors: 64, Log: 8, Inodes: n}, api.Layout{Sectors: n, Log: n, Inodes: n})
	}
	return l
}

// P17.1

func TestLayoutsThatMayNotBe(t *testing.T) {
	for _, l := range mayNot() {
		if e := inode.Check(l); e != api.ErrArg {
			t.Error("Check", l, e)
		}
		if first, count := inode.Data(l); first != 0 || count != 0 {
			t.Error("Data", l, first, count)
		}
		s := makeStore(64)
		was := s.image()
		if e := inode.Format(s, l); e != api.ErrArg {
			t.Error("Format", l, e)
		}
		s.same(t, was)
		if len(s.reads) != 0 {
			t.Error("Format has read", s.reads)
		}
	}
}

func TestLayoutsThatMayBe(t *testing.T) {
	for _, x := range []struct {
		l            api.Layout
		first, count int
	}{
		{example, 12, 52},
		{api.Layout{Sectors: 16, Log: 4, Inodes: 2}, 7, 9},
		{api.Layout{Sectors: 16, Log: 12, Inodes: 8}, 15, 1},
		{api.Layout{Sectors: 16, Log: 11, Inodes: 9}, 15, 1},
		{api.Layout{Sectors: 17, Log: 12, Inodes: 9}, 16, 1},
		{api.Layout{Sectors: 64, Log: 8, Inodes: 416}, 62, 2},
		{api.Layout{Sectors: 64, Log: 8, Inodes: 424}, 63, 1},
		{api.Layout{Sectors: 315, Log: 248, Inodes: 512}, 314, 1},
		{api.Layout{Sectors: 4096, Log: 248, Inodes: 512}, 314, 3782},
		{api.Layout{Sectors: 4096, Log: 4, Inodes: 2}, 7, 4089},
	} {
		if e := inode.Check(x.l); e != api.OK {
			t.Error("Check", x.l, e)
		}
		if first, count := inode.Data(x.l); first != x.first || count != x.count {
			t.Error("Data", x.l, first, count)
		}
	}
}

// super is a superblock's bytes, which the chapter tells.
func super(l api.Layout) []byte {
	return append(slices.Concat([]byte("PARAPET1"), word(l.Sectors), word(l.Log), word(l.Inodes)), make([]byte, size-20)...)
}

func TestFormat(t *testing.T) {
	for _, l := range []api.Layout{example, {Sectors: 16, Log: 4, Inodes: 2}, {Sectors: 16, Log: 12, Inodes: 8}, {Sectors: 320, Log: 248, Inodes: 512}, {Sectors: 4096, Log: 100, Inodes: 257}} {
		s := makeStore(l.Sectors)
		want := s.image()
		if e := inode.Format(s, l); e != api.OK {
			t.Fatal("Format", l, e)
		}
		first, _ := inode.Data(l)
		want[0] = super(l)
		order := []int{0}
		for n := 1 + l.Log; n < first; n++ {
			want[n] = make([]byte, size)
			order = append(order, n)
		}
		for n := range first {
			want[first-1][n/8] |= 1 << (n % 8)
		}
		s.changed(t, want)
		if !slices.Equal(s.writes, order) {
			t.Error("Format", l, "wrote", s.writes)
		}
		if x, e := inode.Open(s); x != l || e != api.OK {
			t.Error("Open", x, e)
		}
	}
}

// Example 1.
func TestFormatOfTheExample(t *testing.T) {
	s := make1(t)
	if b := s.blocks[bitmapBlock]; !bytes.Equal(b[:3], []byte{0xff, 0x0f, 0}) || !bytes.Equal(s.blocks[9], make([]byte, size)) || !bytes.Equal(s.blocks[10], make([]byte, size)) {
		t.Error("blocks 9 to 11", b)
	}
	uses(t, s)
	for n := range example.Inodes {
		gets(t, s, n+1, api.Inode{})
	}
}

func TestFormatAnew(t *testing.T) {
	s := makeFile(t)
	writes(t, s, 1, 0, text(1000))
	was := s.image()
	if e := inode.Format(s, example); e != api.OK {
		t.Error("Format", e)
	}
	s.changed(t, was, 9, bitmapBlock)
	uses(t, s)
}

func TestOpen(t *testing.T) {
	s := makeStore(64)
	none := func(what ...any) {
		t.Helper()
		if l, e := inode.Open(s); l != (api.Layout{}) || e != api.ErrVolume {
			t.Error(append(what, "Open", l, e)...)
		}
	}
	none("bytes that are not zeros")
	clear(s.blocks[0])
	none("zeros")
	for _, l := range mayNot() {
		s.blocks[0] = super(l)
		none(l)
	}
	for i := range size {
		for _, x := range []byte{1, 0x20, 0x80} {
			s.blocks[0] = super(example)
			s.blocks[0][i] ^= x
			if i < 8 || i >= 20 {
				none("byte", i)
			}
		}
	}
	// A layout of more sectors than the store has may be: Open asks for block 0 alone.
	s = makeStore(1)
	s.blocks[0] = super(api.Layout{Sectors: 0x0fff, Log: 0xf8, Inodes: 0x0102})
	if l, e := inode.Open(s); l != (api.Layout{Sectors: 4095, Log: 248, Inodes: 258}) || e != api.OK {
		t.Error("Open", l, e)
	}
	s = makeStore(0)
	if l, e := inode.Open(s); l != (api.Layout{}) || e != api.ErrSector {
		t.Error("Open", l, e)
	}
}

func TestOpenOfAShortBlock(t *testing.T) {
	for _, n := range []int{0, 7, 12} {
		s := &store{left: -1, blocks: [][]byte{super(example)[:n]}}
		if l, e := inode.Open(s); l != (api.Layout{}) || e != api.ErrVolume {
			t.Error("Open", n, l, e)
		}
	}
}

// asked is what a call has answered: an error, and whether there was nothing beside it.
type asked struct {
	e       api.Errno
	nothing bool
}

// every is each call but those of layouts alone, on a store and a layout; also such as would be refused besides.
func every(s api.Store, l api.Layout) map[string]asked {
	out := map[string]asked{}
	told := func(name string, nothing bool, e api.Errno) { out[name] = asked{e, nothing} }
	for _, n := range []int{1, 0} {
		at := " " + string([]byte{byte('0' + n)})
		x, e := inode.Get(s, l, n)
		told("Get"+at, x == (api.Inode{}), e)
		b, e := inode.Read(s, l, n, n-1, n-1)
		told("Read"+at, b == nil, e)
		blocks, e := inode.Blocks(s, l, n)
		told("Blocks"+at, blocks == nil, e)
		a, e := inode.Alloc(s, l, n)
		told("Alloc"+at, a == 0, e)
		told("Put"+at, true, inode.Put(s, l, n, api.Inode{Kind: 1 - n}))
		told("Free"+at, true, inode.Free(s, l, n))
		told("Write"+at, true, inode.Write(s, l, n, n-1, nil))
		told("Truncate"+at, true, inode.Truncate(s, l, n, n-1))
	}
	n, e := inode.Used(s, l)
	told("Used", n == 0, e)
	return out
}

func TestErrArgFirst(t *testing.T) {
	for _, l := range mayNot() {
		s := make1(t)
		was := s.image()
		for name, x := range every(s, l) {
			if x != (asked{api.ErrArg, true}) {
				t.Error(name, l, x)
			}
		}
		s.same(t, was)
		if len(s.reads) != 0 {
			t.Error("read", s.reads)
		}
	}
}

func TestNoStore(t *testing.T) {
	for name, x := range every(nil, example) {
		if x != (asked{api.ErrArg, true}) {
			t.Error(name, x)
		}
	}
	if e := inode.Format(nil, example); e != api.ErrArg {
		t.Error("Format", e)
	}
	if l, e := inode.Open(nil); l != (api.Layout{}) || e != api.ErrArg {
		t.Error("Open", l, e)
	}
}
