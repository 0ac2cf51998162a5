package inode

import (
	"bytes"
	"slices"

	"parapet/api"
)

// sheet is a block of a draft: as the store had it (nil: nobody asked), and as it will be (nil: as it was).
type sheet struct {
	n        int
	was, now []byte
}

// draft is what a call changes of a store. It is written when the call itself refuses nothing any more, so that what is refused has changed nothing.
type draft struct {
	store  api.Store
	layout api.Layout
	sheets []*sheet
}

// begin is a draft without changes.
func begin(s api.Store, l api.Layout) (*draft, api.Errno) {
	if s == nil || Check(l) != api.OK {
		return nil, api.ErrArg
	}
	return &draft{store: s, layout: l}, api.OK
}

// look is a block as it will be, which is only read.
func (d *draft) look(n int) ([]byte, api.Errno) {
	x, e := d.sheet(n)
	if e != api.OK {
		return nil, e
	}
	if x.now == nil {
		return x.was, api.OK
	}
	return x.now, api.OK
}

// edit is a block that will be written, as it is in the end.
func (d *draft) edit(n int) ([]byte, api.Errno) {
	x, e := d.sheet(n)
	if e != api.OK {
		return nil, e
	}
	if x.now == nil {
		x.now = bytes.Clone(x.was)
	}
	return x.now, api.OK
}

// fresh lets a block be zeros, whatever it was: of a block that was free nobody asks.
func (d *draft) fresh(n int) {
	x := d.find(n)
	if x == nil {
		x = &sheet{n: n}
		d.sheets = append(d.sheets, x)
	}
	x.now = make([]byte, api.SectorSize)
}

// save writes what has been edited. If the store refuses a block, those ahead of it are again what they were.
func (d *draft) save() api.Errno {
	edited := slices.DeleteFunc(d.sheets, func(x *sheet) bool { return x.now == nil })
	for i, x := range edited {
		if e := d.store.Write(x.n, x.now); e != api.OK {
			d.restore(edited[:i])
			return e
		}
	}
	return api.OK
}

// restore writes blocks as they were. The store has just taken them, so it isn't asked whether it does so again.
func (d *draft) restore(written []*sheet) {
	for _, x := range written {
		if x.was != nil {
			d.store.Write(x.n, x.was)
		}
	}
}

func (d *draft) find(n int) *sheet {
	for _, x := range d.sheets {
		if x.n == n {
			return x
		}
	}
	return nil
}

// sheet is a block's, which is read from the store if it is not in the draft yet.
func (d *draft) sheet(n int) (*sheet, api.Errno) {
	if x := d.find(n); x != nil {
		return x, api.OK
	}
	b, e := d.store.Read(n)
	if e != api.OK {
		return nil, e
	}
	x := &sheet{n: n, was: whole(b)}
	d.sheets = append(d.sheets, x)
	return x, api.OK
}

// whole is a block of its own, of what a store answered: that may be the store's own memory, or too short.
func whole(b []byte) []byte {
	x := make([]byte, api.SectorSize)
	copy(x, b)
	return x
}
