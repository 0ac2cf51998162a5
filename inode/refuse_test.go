package inode_test

import (
	"bytes"
	"testing"

	"parapet/api"
	"parapet/inode"
)

// call is one that reads, or writes, and whether it has answered nothing beside an error.
type call struct {
	name string
	do   func(s api.Store) (nothing bool, e api.Errno)
}

func calls() []call {
	b := text(3 * size)
	return []call{
		{"Open", func(s api.Store) (bool, api.Errno) {
			l, e := inode.Open(s)
			return l == api.Layout{}, e
		}},
		{"Get", func(s api.Store) (bool, api.Errno) {
			x, e := inode.Get(s, example, 9)
			return x == api.Inode{}, e
		}},
		{"Alloc", func(s api.Store) (bool, api.Errno) {
			n, e := inode.Alloc(s, example, api.InodeDir)
			return n == 0, e
		}},
		{"Read", func(s api.Store) (bool, api.Errno) {
			b, e := inode.Read(s, example, 1, 11*size, 3*size)
			return b == nil, e
		}},
		{"Blocks", func(s api.Store) (bool, api.Errno) {
			l, e := inode.Blocks(s, example, 1)
			return l == nil, e
		}},
		{"Used", func(s api.Store) (bool, api.Errno) {
			n, e := inode.Used(s, example)
			return n == 0, e
		}},
		{"Format", func(s api.Store) (bool, api.Errno) {
			return true, inode.Format(s, api.Layout{Sectors: 64, Log: 9, Inodes: 30})
		}},
		{"Put", func(s api.Store) (bool, api.Errno) { return true, inode.Put(s, example, 1, api.Inode{}) }},
		{"Put of the same", func(s api.Store) (bool, api.Errno) { return true, inode.Put(s, example, 16, api.Inode{}) }},
		{"Free", func(s api.Store) (bool, api.Errno) { return true, inode.Free(s, example, 1) }},
		{"Free of a free one", func(s api.Store) (bool, api.Errno) { return true, inode.Free(s, example, 16) }},
		{"Write", func(s api.Store) (bool, api.Errno) { return true, inode.Write(s, example, 1, 14*size+5, b) }},
		{"Write of new numbers", func(s api.Store) (bool, api.Errno) { return true, inode.Write(s, example, 2, 11*size+5, b) }},
		{"Write of the same", func(s api.Store) (bool, api.Errno) { return true, inode.Write(s, example, 1, 0, text(9)) }},
		{"Truncate", func(s api.Store) (bool, api.Errno) { return true, inode.Truncate(s, example, 1, 13*size+5) }},
		{"Truncate to 0", func(s api.Store) (bool, api.Errno) { return true, inode.Truncate(s, example, 1, 0) }},
		{"Truncate to the same", func(s api.Store) (bool, api.Errno) { return true, inode.Truncate(s, example, 2, 0) }},
	}
}

// makeFull is a store whose first eight inodes are in use, and the first one has blocks 12 to 28.
func makeFull(t *testing.T) *store {
	t.Helper()
	s := make1(t)
	for n := 1; n <= 8; n++ {
		allocs(t, s, api.InodeFile, n)
	}
	writes(t, s, 1, 0, text(16*size))
	s.forget()
	return s
}

// Whatever a store refuses is told, at each of its operations, and nothing has changed: but the bytes of blocks that were free, which nobody is told.
func TestStoreRefuses(t *testing.T) {
	for _, c := range calls() {
		whole := makeFull(t)
		if _, e := c.do(whole); e != api.OK {
			t.Error(c.name, e)
		}
		all := len(whole.reads) + len(whole.writes)
		if all == 0 {
			t.Error(c.name, "asks for nothing")
		}
		for left := range all {
			for _, inner := range []bool{false, true} {
				s := makeFull(t)
				was := s.image()
				s.left, s.inner = left, inner
				if nothing, e := c.do(s); !nothing || e != refused {
					t.Error(c.name, "of operation", left, nothing, e)
				}
				for n, b := range s.blocks {
					if free := n >= 29; !free && !bytes.Equal(b, was[n]) {
						t.Error(c.name, "of operation", left, "has changed", n)
					}
				}
			}
		}
		for left := range all {
			s := makeFull(t)
			s.left, s.forever = left, true
			if nothing, e := c.do(s); !nothing || e != refused {
				t.Error(c.name, "from operation", left, nothing, e)
			}
		}
	}
}

// A store that has fewer blocks than the layout says refuses.
func TestStoreOfFewerBlocks(t *testing.T) {
	for _, count := range []int{0, 1, 9, 10, 11} {
		s := makeStore(count)
		was := s.image()
		if e := inode.Format(s, example); e != api.ErrSector {
			t.Error("Format", count, e)
		}
		s.changed(t, was)
		if n, e := inode.Used(s, example); n != 0 || e != api.ErrSector {
			t.Error("Used", n, e)
		}
	}
	s := makeFile(t)
	s.blocks = s.blocks[:20]
	if e := inode.Write(s, example, 1, 0, text(8*size)); e != api.OK {
		t.Error("Write", e)
	}
	was := s.image()
	if e := inode.Write(s, example, 1, 0, text(9*size)); e != api.ErrSector {
		t.Error("Write", e)
	}
	s.changed(t, was)
}

// What a store hands out is not written to, but by its Write.
func TestStoreOfItsOwnMemory(t *testing.T) {
	for _, c := range calls() {
		a, b := makeFull(t), makeFull(t)
		b.inner = true
		if _, e := c.do(a); e != api.OK {
			t.Error(c.name, e)
		}
		if _, e := c.do(b); e != api.OK {
			t.Error(c.name, e)
		}
		b.changed(t, a.blocks)
	}
}

// keeper is a store that keeps what is written as it came.
type keeper struct{ *store }

func (k keeper) Write(n int, b []byte) api.Errno {
	k.blocks[n] = b
	return api.OK
}

// What was handed in stays with whoever handed it in.
func TestWriteKeepsNothing(t *testing.T) {
	s := makeFile(t)
	b := text(2 * size)
	if e := inode.Write(keeper{s}, example, 1, 0, b); e != api.OK {
		t.Error("Write", e)
	}
	clear(b)
	reads(t, s, 1, 0, 2*size, text(2*size))
}

// garble is a store of any bytes with a layout that may be.
func garble(r *dice) *store {
	s := makeStore(example.Sectors)
	for _, b := range s.blocks {
		some := 1 + r.below(255)
		for i := range b {
			b[i] = byte(r.below(some))
			if r.below(3) == 0 {
				b[i] = 0
			}
		}
	}
	// Inodes that may be, whose blocks have any bytes.
	for n := 1; n <= 16; n += 2 {
		x := api.Inode{Kind: 1 + r.below(2), Size: r.below(api.MaxFileSize + 1)}
		for i := range x.Blocks {
			x.Blocks[i] = firstData + r.below(52)
		}
		inode.Put(s, example, n, x)
	}
	return s
}

// R1: whatever a disk's bytes are.
func TestNothingPanics(t *testing.T) {
	r := dice(17)
	for range 300 {
		s := garble(&r)
		inode.Open(s)
		for n := range 18 {
			inode.Get(s, example, n)
			inode.Read(s, example, n, r.below(100), r.below(20000))
			inode.Blocks(s, example, n)
			inode.Write(s, example, n, r.below(12000), text(r.below(5000)))
			inode.Truncate(s, example, n, r.below(9000))
			inode.Alloc(s, example, api.InodeFile)
			inode.Used(s, example)
			inode.Free(s, example, n)
		}
		for _, n := range append(s.reads, s.writes...) {
			if n < 0 || n >= example.Sectors {
				t.Fatal("no block of the disk:", n)
			}
		}
	}
}
