package pm

import (
	"parapet/api"
)

const wordSize = 4

// page is a page's bytes.
type page [api.PageSize]byte

// memory is the pages that belong to a process, by their numbers.
type memory map[int]page

// lay is a memory of the pages and bytes of an image that may be.
func lay(x api.Image) memory {
	m := memory{}
	for _, r := range x.Zero {
		m.give(r.First, r.Count)
	}
	for _, g := range x.Segments {
		m.put(uint32(g.Addr), g.Bytes)
	}
	return m
}

// give lets pages of zeros belong.
func (m memory) give(at, count int) {
	for i := range count {
		m[at+i] = page{}
	}
}

// gap is the least pages from one on that do not belong, one behind the other.
func (m memory) gap(from, count int) (int, bool) {
	run := 0
	for at := from; at < api.Pages; at++ {
		run++
		if _, there := m[at]; there {
			run = 0
		}
		if run == count {
			return at - count + 1, true
		}
	}
	return 0, false
}

// has tells whether n bytes from an address on are all there.
func (m memory) has(at uint32, n int) bool {
	// The bytes do not go on at 0 behind the last address.
	for next, end := int64(at), int64(at)+int64(n); next < end; next += api.PageSize - next%api.PageSize {
		if _, ok := m[int(next/api.PageSize)]; !ok {
			return false
		}
	}
	return true
}

// bytes is n bytes from an address on.
func (m memory) bytes(at uint32, n int) ([]byte, bool) {
	if !m.has(at, n) {
		return nil, false
	}
	b := make([]byte, 0, n)
	for len(b) < n {
		p, from := m[int(at/api.PageSize)], int(at%api.PageSize)
		b = append(b, p[from:min(from+n-len(b), len(p))]...)
		at += api.PageSize - uint32(from)
	}
	return b, true
}

// put stores bytes from an address on; pages that do not belong come with them.
func (m memory) put(at uint32, b []byte) {
	for len(b) > 0 {
		n := int(at / api.PageSize)
		p := m[n]
		count := copy(p[at%api.PageSize:], b)
		m[n] = p
		b, at = b[count:], at+uint32(count)
	}
}

// word is the word at an address, which must be a multiple of four.
func (m memory) word(at uint32) (uint32, bool) {
	p, ok := m[int(at/api.PageSize)]
	if !ok || at%wordSize != 0 {
		return 0, false
	}
	i := at % api.PageSize
	return uint32(p[i]) | uint32(p[i+1])<<8 | uint32(p[i+2])<<16 | uint32(p[i+3])<<24, true
}

// putWord stores a word, which is there.
func (m memory) putWord(at, x uint32) {
	m.put(at, []byte{byte(x), byte(x >> 8), byte(x >> 16), byte(x >> 24)})
}

// touch does what an instruction asks of the memory, if that is there, and tells what was there.
func (m memory) touch(x api.Act) (uint32, bool) {
	if x.Size < wordSize {
		return m.touchByte(x)
	}
	was, ok := m.word(x.Addr)
	if !ok {
		return 0, false
	}
	if x.Kind == api.ActStore || x.Kind == api.ActCas && was == x.Old {
		m.putWord(x.Addr, x.Value)
	}
	return was, true
}

func (m memory) touchByte(x api.Act) (uint32, bool) {
	b, ok := m.bytes(x.Addr, 1)
	if !ok {
		return 0, false
	}
	if x.Kind == api.ActStore {
		m.put(x.Addr, []byte{byte(x.Value)})
	}
	return uint32(b[0]), true
}
