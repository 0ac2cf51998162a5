package inode

import (
	"bytes"
	"iter"

	"parapet/api"
)

// What a layout has at least.
const (
	leastSectors = 16
	leastLog     = 4
	leastInodes  = 2
)

// Where the parts of a disk begin that lie at the same place in each layout.
const (
	superAt = 0
	logAt   = 1
)

// Where the parts of a superblock stand, behind its letters.
const (
	letters      = "PARAPET1"
	sectorsAt    = len(letters)
	logSizeAt    = sectorsAt + wordBytes
	inodeCountAt = logSizeAt + wordBytes
	superEnd     = inodeCountAt + wordBytes
)

// Check tells why a layout may not be.
func Check(l api.Layout) api.Errno {
	outside := func(n, least, most int) bool { return n < least || n > most }
	if outside(l.Sectors, leastSectors, api.MaxSectors) || outside(l.Log, leastLog, api.MaxLog) || outside(l.Inodes, leastInodes, api.MaxInodes) {
		return api.ErrArg
	}
	if dataAt(l) >= l.Sectors {
		return api.ErrArg
	}
	return api.OK
}

// Data is the first data block, and how many there are.
func Data(l api.Layout) (first, count int) {
	if Check(l) != api.OK {
		return 0, 0
	}
	return dataAt(l), l.Sectors - dataAt(l)
}

// Format makes a store a new disk.
func Format(s api.Store, l api.Layout) api.Errno {
	d, e := begin(s, l)
	if e != api.OK {
		return e
	}
	for n, b := range formatted(l) {
		now, e := d.edit(n)
		if e != api.OK {
			return e
		}
		copy(now, b)
	}
	return d.save()
}

// Open is the layout that a disk has.
func Open(s api.Store) (api.Layout, api.Errno) {
	if s == nil {
		return api.Layout{}, api.ErrArg
	}
	x, e := s.Read(superAt)
	if e != api.OK {
		return api.Layout{}, e
	}
	b := whole(x)
	l := api.Layout{
		Sectors: get(b[sectorsAt:logSizeAt]),
		Log:     get(b[logSizeAt:inodeCountAt]),
		Inodes:  get(b[inodeCountAt:superEnd]),
	}
	if Check(l) != api.OK || !bytes.Equal(b, superblock(l)) {
		return api.Layout{}, api.ErrVolume
	}
	return l, api.OK
}

// formatted goes over the blocks of a new disk that are not left as they are.
func formatted(l api.Layout) iter.Seq2[int, []byte] {
	return func(yield func(int, []byte) bool) {
		if !yield(superAt, superblock(l)) {
			return
		}
		for n := inodesAt(l); n < bitmapAt(l); n++ {
			if !yield(n, make([]byte, api.SectorSize)) {
				return
			}
		}
		b := make(bitmap, api.SectorSize)
		for n := range dataAt(l) {
			b.set(n, true)
		}
		yield(bitmapAt(l), b)
	}
}

func superblock(l api.Layout) []byte {
	b := make([]byte, api.SectorSize)
	copy(b, letters)
	put(b[sectorsAt:logSizeAt], l.Sectors)
	put(b[logSizeAt:inodeCountAt], l.Log)
	put(b[inodeCountAt:superEnd], l.Inodes)
	return b
}

// inodesAt is the first block of inodes.
func inodesAt(l api.Layout) int {
	return logAt + l.Log
}

func bitmapAt(l api.Layout) int {
	return inodesAt(l) + (l.Inodes+inodesInBlock-1)/inodesInBlock
}

// dataAt is the first data block.
func dataAt(l api.Layout) int {
	return bitmapAt(l) + 1
}

func isData(l api.Layout, n int) bool {
	return n >= dataAt(l) && n < l.Sectors
}
