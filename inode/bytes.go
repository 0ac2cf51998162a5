package inode

import (
	"iter"

	"parapet/api"
)

const wordBytes = 4

// put lays a number down, its lowest byte first.
func put(b []byte, x int) {
	for i := range b {
		b[i] = byte(x)
		x >>= 8
	}
}

// get is a number that was laid down so.
func get(b []byte) int {
	x := 0
	for i := range b {
		x |= int(b[i]) << (8 * i)
	}
	return x
}

// word is the bytes of the i-th one of words.
func word(b []byte, i int) []byte {
	return b[i*wordBytes : (i+1)*wordBytes : (i+1)*wordBytes]
}

// piece is the bytes of a range that lie in one block of a file.
type piece struct{ block, from, to int }

// pieces goes over the pieces of so many bytes, the first of which is at.
func pieces(at, count int) iter.Seq[piece] {
	return func(yield func(piece) bool) {
		for count > 0 {
			from := at % api.SectorSize
			n := min(count, api.SectorSize-from)
			if !yield(piece{block: at / api.SectorSize, from: from, to: from + n}) {
				return
			}
			at, count = at+n, count-n
		}
	}
}
