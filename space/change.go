package space

import (
	"slices"

	"parapet/api"
	"parapet/ptab"
)

// mostUses is how often a frame may be used (layer 6).
const mostUses = 1 << 20

// Touch is the physical address that an address names for a hart.
func (s *Space) Touch(hart int, addr uint32, write bool) (int, api.Errno) {
	if s.closed() {
		return 0, api.ErrClosed
	}
	page, ok := pageOf(addr)
	if !ok || hart < 0 || hart >= s.w.t.Harts() {
		return 0, api.ErrFault
	}
	key := api.Key{Space: s.id, Page: page}
	entry, _ := s.w.t.Look(hart, key)
	if entry == 0 {
		entry = s.entry(page)
		if entry == 0 {
			return 0, api.ErrFault
		}
		s.w.t.Fill(hart, key, entry)
	}
	if write && entry&api.PteWrite == 0 {
		return 0, api.ErrFault
	}
	return ptab.Frame(entry)*api.PageSize + int(addr%api.PageSize), api.OK
}

// Fault sees to it that a touch that failed can be done, now or behind a change.
func (s *Space) Fault(hart int, addr uint32, write bool, targets []int) (int, api.Change) {
	page, ok := pageOf(addr)
	if !ok || !s.Has(page) {
		return api.FaultBad, api.Change{}
	}
	kind, c := s.mend(hart, page, write, targets)
	if kind != api.FaultNoMem {
		s.w.t.Flush(hart, s.id)
	}
	return kind, c
}

// Unmap lets pages belong to it no more.
func (s *Space) Unmap(first, count int, targets []int) (api.Change, api.Errno) {
	if s.closed() {
		return api.Change{}, api.ErrClosed
	}
	if !arePages(first, count) {
		return api.Change{}, api.ErrArg
	}
	var c api.Change
	for i := range count {
		page := first + i
		if entry := s.entry(page); entry != 0 {
			c.Frames = append(c.Frames, ptab.Frame(entry))
			s.table.Set(page, 0, noFrame)
		}
	}
	clear(s.pages[first : first+count])
	if len(c.Frames) > 0 {
		c.Shoot = s.shoot(targets)
	}
	return c, api.OK
}

// Fork is another space with the same pages; neither is written to any more till a fault has parted them.
func (s *Space) Fork(hart int, targets []int) (*Space, api.Change, api.Errno) {
	if s.closed() {
		return nil, api.Change{}, api.ErrClosed
	}
	if !s.canFork() {
		return nil, api.Change{}, api.ErrFull
	}
	f, e := s.w.New(hart)
	if e != api.OK {
		return nil, api.Change{}, api.ErrFull
	}
	f.pages = s.pages
	turned := false
	for page, entry := range s.table.All() {
		if entry&api.PteWrite != 0 {
			entry = entry&^api.PteWrite | api.PteCow
			s.table.Set(page, entry, noFrame)
			turned = true
		}
		s.w.f.Incr(ptab.Frame(entry))
		f.set(hart, page, entry)
	}
	var c api.Change
	if turned {
		c.Shoot = s.shoot(targets)
	}
	return f, c, api.OK
}

// Settle lets a change's frames go once its shootdown is over, and tells whether it is.
func (s *Space) Settle(hart int, c api.Change) bool {
	if s.closed() || c.Shoot != 0 && !s.w.t.Over(c.Shoot) {
		return false
	}
	for _, n := range c.Frames {
		if _, e := s.w.f.Decr(hart, n); e == api.ErrArg {
			return false // no such hart: the change is still to be settled
		}
	}
	return true
}

// mend gives a page the entry by which a touch can be done.
func (s *Space) mend(hart, page int, write bool, targets []int) (int, api.Change) {
	entry := s.entry(page)
	switch {
	case entry == 0:
		if !s.fill(hart, page) {
			return api.FaultNoMem, api.Change{}
		}
	case write && entry&api.PteCow != 0 && s.w.f.Count(ptab.Frame(entry)) == 1:
		s.table.Set(page, entry&^api.PteCow|api.PteWrite, noFrame)
	case write && entry&api.PteCow != 0:
		return s.part(hart, page, targets)
	}
	return api.FaultDone, api.Change{}
}

// part gives a page a copy of its frame. It can't be written yet: harts may keep the old one, and would not see it.
func (s *Space) part(hart, page int, targets []int) (int, api.Change) {
	n, e := s.w.f.Alloc(hart)
	if e != api.OK {
		return api.FaultNoMem, api.Change{}
	}
	old := ptab.Frame(s.entry(page))
	s.w.m.Copy(n, old)
	s.table.Set(page, ptab.Pack(n, api.PteValid|api.PteCow), noFrame)
	return api.FaultWait, api.Change{Shoot: s.shoot(targets), Frames: []int{old}}
}

// shoot begins a shootdown of the space at those of the targets that are harts, each once: others would have tlb.Start refuse all of it.
func (s *Space) shoot(targets []int) int {
	var l []int
	for hart := range s.w.t.Harts() {
		if slices.Contains(targets, hart) {
			l = append(l, hart)
		}
	}
	id, _ := s.w.t.Start(s.id, l)
	return id
}

// canFork tells whether there are frames for another root and its leaves, and each page's frame may be used once more.
func (s *Space) canFork() bool {
	need, leaf := 1, -1
	for page, entry := range s.table.All() {
		if s.w.f.Count(ptab.Frame(entry)) == mostUses {
			return false
		}
		if page/leafPages != leaf {
			leaf = page / leafPages
			need++
		}
	}
	return s.w.f.Free() >= need
}

// pageOf is the page of an address, if there is one.
func pageOf(addr uint32) (int, bool) {
	page := int(addr / api.PageSize)
	return page, isPage(page)
}
