package ptab_test

import (
	"bytes"
	"testing"

	"parapet/api"
	"parapet/phys"
	"parapet/ptab"
)

// model is a table as the chapter tells it, without a memory.
type model struct {
	entries [api.Pages]uint32
	leaves  [4]int // -1: none
}

// dice are numbers that are the same in each run.
type dice uint64

func (d *dice) below(n int) int {
	*d = *d*6364136223846793005 + 1442695040888963407
	return int(uint64(*d)>>33) % n
}

const bigFrames = 40

// set is what Set answers of an entry that may be.
func (m *model) set(page int, entry uint32, spare int) (bool, api.Errno) {
	if m.leaves[page/64] >= 0 {
		m.entries[page] = entry
		return false, api.OK
	}
	switch {
	case entry == 0:
		return false, api.OK
	case spare < 0:
		return false, api.ErrFull
	case spare >= bigFrames:
		return false, api.ErrAddr
	}
	m.leaves[page/64] = spare
	m.entries[page] = entry
	return true, api.OK
}

// pair is two tables of one memory, that must not touch each other's frames.
type pair struct {
	m      *phys.Mem
	tables [2]*ptab.Table
	models [2]model
	spares []int
}

func makePair(t *testing.T) *pair {
	t.Helper()
	m, _ := phys.New(bigFrames)
	w := &pair{m: m}
	for i := range bigFrames {
		m.Write(i*api.PageSize, bytes.Repeat([]byte{byte(i + 1)}, api.PageSize))
		if i >= 2 && i < 10 {
			w.spares = append(w.spares, i)
		}
	}
	for i := range w.tables {
		p, e := ptab.New(m, i)
		if e != api.OK {
			t.Fatal("New", e)
		}
		w.tables[i], w.models[i] = p, model{leaves: [4]int{-1, -1, -1, -1}}
	}
	return w
}

func (w *pair) step(t *testing.T, r *dice) {
	t.Helper()
	i, page, entry := r.below(2), r.below(api.Pages), uint32(0)
	if r.below(3) > 0 {
		flags := []int{valid, write, cow}
		entry = ptab.Pack(10+r.below(30), flags[r.below(3)])
	}
	spare := []int{-1, bigFrames, w.spares[0]}[r.below(3)]
	took, e := w.tables[i].Set(page, entry, spare)
	wantTook, want := w.models[i].set(page, entry, spare)
	if took != wantTook || e != want {
		t.Fatal("Set", page, entry, spare, took, e, wantTook, want)
	}
	if took {
		w.spares = append(w.spares[1:], -1)
	}
}

func hold(t *testing.T, w *pair, i int) {
	t.Helper()
	p, m := w.tables[i], &w.models[i]
	l := paging(p)
	for page, entry := range m.entries {
		gets(t, w.m, p, page, entry)
		if p.Needs(page) != (m.leaves[page/64] < 0) {
			t.Fatal("Needs", page)
		}
		for _, wr := range []bool{false, true} {
			at, e := p.Translate(uint32(page*256+page), wr)
			if can := entry&1 == 1 && (!wr || entry&2 == 2); can && (e != api.OK || at != int(entry/256*256)+page) || !can && (e != api.ErrFault || at != 0) {
				t.Fatal("Translate", page, entry, wr, at, e)
			}
		}
		if entry != 0 {
			if len(l) == 0 || l[0] != (paged{page, entry}) {
				t.Fatal("All", page, l)
			}
			l = l[1:]
		}
	}
	leaves := p.Leaves()
	for _, leaf := range m.leaves {
		if leaf >= 0 {
			if len(leaves) == 0 || leaves[0] != leaf {
				t.Fatal("Leaves", leaves, m.leaves)
			}
			leaves = leaves[1:]
		}
	}
	if len(l) != 0 || len(leaves) != 0 {
		t.Fatal("more than there is", l, leaves)
	}
}

// P5.2 to P5.6: whatever is set in whatever order, each table is what the chapter tells, and what is neither's root nor leaf is as it was.
func TestAgainstModel(t *testing.T) {
	r := dice(5)
	for range 8 {
		w := makePair(t)
		for range 300 {
			w.step(t, &r)
		}
		hold(t, w, 0)
		hold(t, w, 1)
		for _, leaf := range append(w.tables[0].Leaves(), w.tables[1].Leaves()...) {
			w.m.Write(leaf*api.PageSize, bytes.Repeat([]byte{byte(leaf + 1)}, api.PageSize))
		}
		for i := 2; i < bigFrames; i++ {
			if b, _ := w.m.Frame(i); !bytes.Equal(b, bytes.Repeat([]byte{byte(i + 1)}, api.PageSize)) {
				t.Fatal("frame", i, "has changed")
			}
		}
	}
}
