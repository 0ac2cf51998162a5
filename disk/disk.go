// Package disk is layer 2: a disk that is played, with a cache of writes that do not last yet. See shared/doc/02-disk.md.
package disk

import (
	"bytes"
	"maps"
	"slices"

	"parapet/api"
)

// unstopped is a count of operations left, of a disk whose power does not go.
const unstopped = -1

// write is a pending write. Its data is never changed once it stands here, so that forks may share it.
type write struct {
	sector int
	data   []byte
}

// Disk is a platter, and the writes that do not last yet.
type Disk struct {
	platter []byte
	pending []write
	last    map[int]int // by sector: the place of its last pending write
	left    int         // writes and flushes up to the power's going; below 0: it does not go

	reads, writes, flushes int
}

// New is a disk of so many sectors, of bytes 0.
func New(count int) (*Disk, api.Errno) {
	if count < 1 || count > api.MaxSectors {
		return nil, api.ErrArg
	}
	return with(make([]byte, count*api.SectorSize)), api.OK
}

// Load is a disk whose platter is told.
func Load(image []byte) (*Disk, api.Errno) {
	if len(image) == 0 || len(image)%api.SectorSize != 0 || len(image)/api.SectorSize > api.MaxSectors {
		return nil, api.ErrArg
	}
	return with(bytes.Clone(image)), api.OK
}

// Count is how many sectors it has.
func (d *Disk) Count() int {
	if d.closed() {
		return 0
	}
	return len(d.platter) / api.SectorSize
}

// Read is a sector's 512 bytes.
func (d *Disk) Read(n int) ([]byte, api.Errno) {
	if d.closed() {
		return nil, api.ErrClosed
	}
	if !d.has(n) {
		return nil, api.ErrSector
	}
	d.reads++
	if at, ok := d.last[n]; ok {
		return bytes.Clone(d.pending[at].data), api.OK
	}
	return bytes.Clone(d.sector(n)), api.OK
}

// Write makes a write of a sector pending; without power it does nothing.
func (d *Disk) Write(n int, b []byte) api.Errno {
	if d.closed() {
		return api.ErrClosed
	}
	if !d.has(n) {
		return api.ErrSector
	}
	if len(b) != api.SectorSize {
		return api.ErrArg
	}
	if !d.spend() {
		return api.OK
	}
	d.writes++
	d.last[n] = len(d.pending)
	d.pending = append(d.pending, write{sector: n, data: bytes.Clone(b)})
	return api.OK
}

// Flush lays all pending writes down, and tells how many; without power it does nothing.
func (d *Disk) Flush() int {
	if d.closed() || !d.spend() {
		return 0
	}
	d.flushes++
	n := len(d.pending)
	for _, w := range d.pending {
		copy(d.sector(w.sector), w.data)
	}
	d.forget()
	return n
}

// Pending is the sectors of the pending writes, in order.
func (d *Disk) Pending() []int {
	if d.closed() {
		return nil
	}
	l := make([]int, len(d.pending))
	for i, w := range d.pending {
		l[i] = w.sector
	}
	return l
}

// Image is the platter's bytes.
func (d *Disk) Image() []byte {
	if d.closed() {
		return nil
	}
	return bytes.Clone(d.platter)
}

// Stop lets the power go behind n more writes and flushes; with n below 0 it does not go.
func (d *Disk) Stop(n int) {
	if d.closed() {
		return
	}
	d.left = max(n, unstopped)
}

// Off tells whether the power is gone.
func (d *Disk) Off() bool {
	return !d.closed() && d.left == 0
}

// Crash lays down what it is told of the pending writes, drops the others, and brings the power back.
func (d *Disk) Crash(l []api.Torn) api.Errno {
	if d.closed() {
		return api.ErrClosed
	}
	if !d.keeps(l) {
		return api.ErrArg
	}
	for _, t := range l {
		w := d.pending[t.At]
		copy(d.sector(w.sector), w.data[:t.Bytes])
	}
	d.forget()
	d.left = unstopped
	return api.OK
}

// Counts is how many reads, writes and flushes were done.
func (d *Disk) Counts() (reads, writes, flushes int) {
	if d.closed() {
		return 0, 0, 0
	}
	return d.reads, d.writes, d.flushes
}

// Fork is another disk that is the same, and goes on by itself.
func (d *Disk) Fork() *Disk {
	if d.closed() {
		return nil
	}
	f := *d
	f.platter = bytes.Clone(d.platter)
	f.pending = slices.Clone(d.pending)
	f.last = maps.Clone(d.last)
	return &f
}

// with is a disk of that platter, which it keeps.
func with(platter []byte) *Disk {
	return &Disk{platter: platter, last: map[int]int{}, left: unstopped}
}

// closed tells whether no call of this package made d: their disks have a sector at least.
func (d *Disk) closed() bool {
	return d == nil || len(d.platter) == 0
}

func (d *Disk) has(n int) bool {
	return n >= 0 && n < d.Count()
}

// sector is the platter's own bytes of a sector, cut off so that nothing done to them reaches the next one.
func (d *Disk) sector(n int) []byte {
	at := n * api.SectorSize
	return d.platter[at : at+api.SectorSize : at+api.SectorSize]
}

// spend takes one of the operations that are left, and tells whether there was power for it.
func (d *Disk) spend() bool {
	if d.left == 0 {
		return false
	}
	if d.left > 0 {
		d.left--
	}
	return true
}

// forget drops all pending writes.
func (d *Disk) forget() {
	d.pending = nil
	clear(d.last)
}

// keeps tells whether l names places of pending writes, rising, and of each a number of bytes that a sector has.
func (d *Disk) keeps(l []api.Torn) bool {
	least := 0
	for _, t := range l {
		if t.At < least || t.At >= len(d.pending) || t.Bytes < 1 || t.Bytes > api.SectorSize {
			return false
		}
		least = t.At + 1
	}
	return true
}
