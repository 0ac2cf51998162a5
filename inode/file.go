package inode

import (
	"slices"

	"parapet/api"
)

const (
	mostBlocks = api.MaxFileSize / api.SectorSize
	tableAt    = api.MaxDirect // of an inode's numbers: that of the block for numbers
)

// file is an inode in a draft.
type file struct {
	*draft
	n     int
	inode api.Inode
}

// Read is bytes of an inode.
func Read(s api.Store, l api.Layout, n, at, count int) ([]byte, api.Errno) {
	f, e := open(s, l, n)
	if e != api.OK {
		return nil, e
	}
	if at < 0 || count < 0 {
		return nil, api.ErrRange
	}
	count = min(count, max(f.inode.Size-at, 0))
	out := make([]byte, 0, count)
	for p := range pieces(at, count) {
		b, e := f.block(p.block)
		if e != api.OK {
			return nil, e
		}
		out = append(out, b[p.from:p.to]...)
	}
	return out, api.OK
}

// Write lets bytes of an inode be b.
func Write(s api.Store, l api.Layout, n, at int, b []byte) api.Errno {
	f, e := openUsed(s, l, n)
	if e != api.OK {
		return e
	}
	if at < 0 || at > api.MaxFileSize-len(b) {
		return api.ErrRange
	}
	was := f.inode
	f.inode.Size = max(was.Size, at+len(b))
	for p := range pieces(at, len(b)) {
		to, e := f.editBlock(p.block)
		if e != api.OK {
			return e
		}
		b = b[copy(to[p.from:p.to], b):]
	}
	if f.inode == was {
		return f.save()
	}
	return f.saveInode()
}

// Truncate lets an inode have so many bytes.
func Truncate(s api.Store, l api.Layout, n, size int) api.Errno {
	f, e := openUsed(s, l, n)
	if e != api.OK {
		return e
	}
	if size < 0 || size > api.MaxFileSize {
		return api.ErrRange
	}
	if size < f.inode.Size {
		if e := f.cut(size); e != api.OK {
			return e
		}
	}
	f.inode.Size = size
	return f.saveInode()
}

// Blocks is an inode's blocks: those with bytes, then the one for numbers.
func Blocks(s api.Store, l api.Layout, n int) ([]int, api.Errno) {
	f, e := open(s, l, n)
	if e != api.OK {
		return nil, e
	}
	all, e := f.numbers()
	if e != api.OK {
		return nil, e
	}
	return those(append(all, f.inode.Blocks[tableAt])), api.OK
}

// Touches is how many blocks a Write writes at most: beside those that it covers the bitmap, the inode's and the one for numbers.
func Touches(at, count int) int {
	if at < 0 || count < 0 || at > api.MaxFileSize-count {
		return 0
	}
	n := 3
	for range pieces(at, count) {
		n++
	}
	return n
}

func open(s api.Store, l api.Layout, n int) (*file, api.Errno) {
	d, e := begin(s, l)
	if e != api.OK {
		return nil, e
	}
	x, e := d.fetch(n)
	if e != api.OK {
		return nil, e
	}
	return &file{draft: d, n: n, inode: x}, api.OK
}

// openUsed is open, but of an inode that is not free.
func openUsed(s api.Store, l api.Layout, n int) (*file, api.Errno) {
	f, e := open(s, l, n)
	if e == api.OK && f.inode.Kind == api.InodeFree {
		return nil, api.ErrInode
	}
	return f, e
}

// saveInode saves the draft with the inode.
func (f *file) saveInode() api.Errno {
	if e := f.put(f.n, f.inode); e != api.OK {
		return e
	}
	return f.save()
}

// block is the bytes of the file's block k.
func (f *file) block(k int) ([]byte, api.Errno) {
	n, e := f.number(k)
	if e != api.OK {
		return nil, e
	}
	if n == 0 {
		return make([]byte, api.SectorSize), api.OK
	}
	return f.look(n)
}

// editBlock is the bytes of the file's block k, which comes if it is not there.
func (f *file) editBlock(k int) ([]byte, api.Errno) {
	n, e := f.number(k)
	if e != api.OK {
		return nil, e
	}
	if n == 0 {
		n, e = f.grow(k)
	}
	if e != api.OK {
		return nil, e
	}
	return f.edit(n)
}

// grow is a new block, which is the file's block k; the block for numbers comes ahead of the first one that stands in it.
func (f *file) grow(k int) (int, api.Errno) {
	if k >= api.MaxDirect && f.inode.Blocks[tableAt] == 0 {
		table, e := f.take()
		if e != api.OK {
			return 0, e
		}
		f.inode.Blocks[tableAt] = table
	}
	n, e := f.take()
	if e != api.OK {
		return 0, e
	}
	if k < api.MaxDirect {
		f.inode.Blocks[k] = n
		return n, api.OK
	}
	words, e := f.edit(f.inode.Blocks[tableAt])
	if e != api.OK {
		return 0, e
	}
	put(word(words, k-api.MaxDirect), n)
	return n, api.OK
}

// number is that of the file's block k, 0 of none. An inode with a word that is no data block's number is one that may not be.
func (f *file) number(k int) (int, api.Errno) {
	if k < api.MaxDirect {
		return f.inode.Blocks[k], api.OK
	}
	table := f.inode.Blocks[tableAt]
	if table == 0 {
		return 0, api.OK
	}
	words, e := f.look(table)
	if e != api.OK {
		return 0, e
	}
	n := get(word(words, k-api.MaxDirect))
	if n != 0 && !isData(f.layout, n) {
		return 0, api.ErrInode
	}
	return n, api.OK
}

// numbers is those of all blocks that a file can have.
func (f *file) numbers() ([]int, api.Errno) {
	var l []int
	for k := range mostBlocks {
		n, e := f.number(k)
		if e != api.OK {
			return nil, e
		}
		l = append(l, n)
	}
	return l, api.OK
}

// cut lets the bytes from size on go.
func (f *file) cut(size int) api.Errno {
	last, rest := size/api.SectorSize, size%api.SectorSize
	if rest == 0 {
		return f.drop(last)
	}
	n, e := f.number(last)
	if e != api.OK {
		return e
	}
	if n != 0 {
		b, e := f.edit(n)
		if e != api.OK {
			return e
		}
		clear(b[rest:])
	}
	return f.drop(last + 1)
}

// drop lets the blocks from the file's block k on go, and the one for numbers if none stands in it any more: that keeps its bytes then.
func (f *file) drop(k int) api.Errno {
	all, e := f.numbers()
	if e != api.OK {
		return e
	}
	gone, table := those(all[k:]), f.inode.Blocks[tableAt]
	stay := those(all[api.MaxDirect:max(k, api.MaxDirect)]) // in the block for numbers
	switch {
	case table == 0:
	case len(stay) == 0:
		gone = append(gone, table)
		f.inode.Blocks[tableAt] = 0
	case len(gone) > 0:
		words, e := f.edit(table)
		if e != api.OK {
			return e
		}
		clear(words[wordBytes*(k-api.MaxDirect) : wordBytes*(mostBlocks-api.MaxDirect)])
	}
	clear(f.inode.Blocks[min(k, api.MaxDirect):api.MaxDirect])
	return f.release(gone)
}

// those is the numbers of a list that are some block's.
func those(l []int) []int {
	return slices.DeleteFunc(slices.Clone(l), func(n int) bool { return n == 0 })
}
