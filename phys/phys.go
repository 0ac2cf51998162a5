// Package phys is layer 1: a machine's physical memory. See shared/doc/01-phys.md.
package phys

import (
	"bytes"

	"parapet/api"
)

const wordSize = 4

// Mem is frames, laid end to end.
type Mem struct {
	room []byte
}

// New is a memory of so many frames, all of whose bytes are 0.
func New(frames int) (*Mem, api.Errno) {
	if frames < 1 || frames > api.MaxFrames {
		return nil, api.ErrArg
	}
	return &Mem{room: make([]byte, frames*api.PageSize)}, api.OK
}

// Frames is how many frames it has.
func (m *Mem) Frames() int {
	if m.closed() {
		return 0
	}
	return len(m.room) / api.PageSize
}

// Load8 is the byte at an address.
func (m *Mem) Load8(addr int) (byte, api.Errno) {
	b, e := m.span(addr, 1)
	if e != api.OK {
		return 0, e
	}
	return b[0], api.OK
}

// Store8 sets the byte at an address.
func (m *Mem) Store8(addr int, x byte) api.Errno {
	b, e := m.span(addr, 1)
	if e != api.OK {
		return e
	}
	b[0] = x
	return api.OK
}

// Load32 is the word at an address.
func (m *Mem) Load32(addr int) (uint32, api.Errno) {
	b, e := m.word(addr)
	if e != api.OK {
		return 0, e
	}
	return join(b), api.OK
}

// Store32 sets the word at an address.
func (m *Mem) Store32(addr int, x uint32) api.Errno {
	b, e := m.word(addr)
	if e != api.OK {
		return e
	}
	split(b, x)
	return api.OK
}

// Cas answers the word that was there, and sets it if that was old.
func (m *Mem) Cas(addr int, old, to uint32) (uint32, api.Errno) {
	b, e := m.word(addr)
	if e != api.OK {
		return 0, e
	}
	was := join(b)
	if was == old {
		split(b, to)
	}
	return was, api.OK
}

// Read is n bytes from an address on.
func (m *Mem) Read(addr, n int) ([]byte, api.Errno) {
	b, e := m.span(addr, n)
	if e != api.OK {
		return nil, e
	}
	return bytes.Clone(b), api.OK
}

// Write sets bytes from an address on.
func (m *Mem) Write(addr int, b []byte) api.Errno {
	to, e := m.span(addr, len(b))
	if e != api.OK {
		return e
	}
	copy(to, b)
	return api.OK
}

// Zero clears a frame.
func (m *Mem) Zero(frame int) api.Errno {
	b, e := m.frame(frame)
	if e != api.OK {
		return e
	}
	clear(b)
	return api.OK
}

// Copy makes a frame's bytes those of another one.
func (m *Mem) Copy(to, from int) api.Errno {
	dst, e := m.frame(to)
	if e != api.OK {
		return e
	}
	src, e := m.frame(from)
	if e != api.OK {
		return e
	}
	copy(dst, src)
	return api.OK
}

// Frame is a frame's bytes.
func (m *Mem) Frame(frame int) ([]byte, api.Errno) {
	b, e := m.frame(frame)
	if e != api.OK {
		return nil, e
	}
	return bytes.Clone(b), api.OK
}

// Fork is another memory that is the same, and goes on by itself.
func (m *Mem) Fork() *Mem {
	if m.closed() {
		return nil
	}
	return &Mem{room: bytes.Clone(m.room)}
}

// closed tells whether no call of this package made m: New's memories have a frame at least.
func (m *Mem) closed() bool {
	return m == nil || len(m.room) == 0
}

// span is the memory's own n bytes from addr on, cut off so that nothing done to them reaches what lies behind.
func (m *Mem) span(addr, n int) ([]byte, api.Errno) {
	if m.closed() {
		return nil, api.ErrClosed
	}
	// n is held against what is left, since addr+n may be more than an int holds.
	if addr < 0 || addr > len(m.room) || n < 0 || n > len(m.room)-addr {
		return nil, api.ErrAddr
	}
	return m.room[addr : addr+n : addr+n], api.OK
}

// word is the memory's own four bytes of the word at addr.
func (m *Mem) word(addr int) ([]byte, api.Errno) {
	b, e := m.span(addr, wordSize)
	if e == api.OK && addr%wordSize != 0 {
		return nil, api.ErrAddr
	}
	return b, e
}

// frame is the memory's own bytes of a frame.
func (m *Mem) frame(n int) ([]byte, api.Errno) {
	if m.closed() {
		return nil, api.ErrClosed
	}
	// The frame's number is looked at first, since its address may be more than an int holds.
	if n < 0 || n >= m.Frames() {
		return nil, api.ErrAddr
	}
	return m.span(n*api.PageSize, api.PageSize)
}

func join(b []byte) uint32 {
	return uint32(b[0]) | uint32(b[1])<<8 | uint32(b[2])<<16 | uint32(b[3])<<24
}

func split(b []byte, x uint32) {
	b[0] = byte(x)
	b[1] = byte(x >> 8)
	b[2] = byte(x >> 16)
	b[3] = byte(x >> 24)
}
