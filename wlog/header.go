package wlog

import (
	"slices"

	"parapet/api"
)

// Where a header's parts stand, behind its generation.
const (
	countAt   = 8
	numbersAt = 10
	endAt     = api.SectorSize - 8 // of the generation again
)

const (
	mostBlocks = api.MaxLog - 1
	mostNumber = 1<<16 - 1
)

// Header is a header's bytes.
func Header(generation uint64, blocks []int) ([]byte, api.Errno) {
	outside := func(n int) bool { return n < 0 || n > mostNumber }
	if len(blocks) > mostBlocks || slices.ContainsFunc(blocks, outside) {
		return nil, api.ErrLog
	}
	return header(generation, blocks), api.OK
}

// Parse is what a header says, if it is right for a log of size sectors from at on, of a disk of count sectors.
func Parse(b []byte, at, size, count int) (uint64, []int, bool) {
	if len(b) != api.SectorSize {
		return 0, nil, false
	}
	generation, n := get(b[:countAt]), int(get(b[countAt:numbersAt]))
	if generation != ending(b) || n >= size || n > mostBlocks {
		return 0, nil, false
	}
	blocks, rest := make([]int, n), b[numbersAt:endAt]
	for i := range blocks {
		x := int(get(rest[:2]))
		if !isBlock(x, at, size, count) || slices.Contains(blocks[:i], x) {
			return 0, nil, false
		}
		blocks[i], rest = x, rest[2:]
	}
	if slices.ContainsFunc(rest, func(x byte) bool { return x != 0 }) {
		return 0, nil, false
	}
	return generation, blocks, true
}

// header is a header's bytes, of blocks that it has room for.
func header(generation uint64, blocks []int) []byte {
	b := make([]byte, api.SectorSize)
	put(b[:countAt], generation)
	put(b[countAt:numbersAt], uint64(len(blocks)))
	for i, n := range blocks {
		put(b[numbersAt+2*i:][:2], uint64(n))
	}
	put(b[endAt:], generation)
	return b
}

// ending is the generation in a header's last bytes.
func ending(b []byte) uint64 {
	return get(b[endAt:])
}

// isBlock tells whether a disk of count sectors has sector n, and the log of size sectors from at on has not.
func isBlock(n, at, size, count int) bool {
	if n < 0 || n >= count {
		return false
	}
	// As uint the distance is right whatever at is: for an at far below 0 it is too great for an int.
	return n < at || uint(n)-uint(at) >= uint(size)
}

// put lays a number down, its highest byte first.
func put(b []byte, x uint64) {
	for i := len(b) - 1; i >= 0; i-- {
		b[i] = byte(x)
		x >>= 8
	}
}

// get is a number that was laid down so.
func get(b []byte) uint64 {
	var x uint64
	for _, c := range b {
		x = x<<8 | uint64(c)
	}
	return x
}
