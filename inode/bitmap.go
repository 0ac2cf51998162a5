package inode

import "parapet/api"

// bitmap has a bit for each block of a disk.
type bitmap []byte

func (b bitmap) used(n int) bool {
	return b[n/8]>>(n%8)&1 != 0
}

func (b bitmap) set(n int, used bool) {
	b[n/8] &^= 1 << (n % 8)
	if used {
		b[n/8] |= 1 << (n % 8)
	}
}

// Used is how many data blocks the bitmap says are used.
func Used(s api.Store, l api.Layout) (int, api.Errno) {
	d, e := begin(s, l)
	if e != api.OK {
		return 0, e
	}
	b, e := d.look(bitmapAt(l))
	if e != api.OK {
		return 0, e
	}
	count := 0
	for n := dataAt(l); n < l.Sectors; n++ {
		if bitmap(b).used(n) {
			count++
		}
	}
	return count, api.OK
}

// take is the least free data block, of zeros, which is used from then on.
func (d *draft) take() (int, api.Errno) {
	b, e := d.look(bitmapAt(d.layout))
	if e != api.OK {
		return 0, e
	}
	for n := dataAt(d.layout); n < d.layout.Sectors; n++ {
		if !bitmap(b).used(n) {
			d.fresh(n)
			return n, d.mark(n, true)
		}
	}
	return 0, api.ErrSpace
}

// release lets data blocks go.
func (d *draft) release(blocks []int) api.Errno {
	for _, n := range blocks {
		if e := d.mark(n, false); e != api.OK {
			return e
		}
	}
	return api.OK
}

func (d *draft) mark(n int, used bool) api.Errno {
	b, e := d.edit(bitmapAt(d.layout))
	if e != api.OK {
		return e
	}
	bitmap(b).set(n, used)
	return api.OK
}
