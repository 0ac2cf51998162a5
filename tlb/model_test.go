package tlb_test

import (
	"slices"
	"testing"

	"parapet/api"
	"parapet/tlb"
)

// model is harts as the chapter tells them: lists alone, and each shootdown with those that have not handled it.
type model struct {
	size    int
	keys    [][]api.Key
	entries [][]uint32
	spaces  []int   // of each shootdown
	waits   [][]int // of each shootdown
}

func makeModel(harts, size int) *model {
	return &model{size: size, keys: make([][]api.Key, harts), entries: make([][]uint32, harts)}
}

func (m *model) fill(hart int, k api.Key, entry uint32) {
	if i := slices.Index(m.keys[hart], k); i >= 0 {
		m.entries[hart][i] = entry
		return
	}
	if len(m.keys[hart]) == m.size {
		m.keys[hart] = m.keys[hart][1:]
		m.entries[hart] = m.entries[hart][1:]
	}
	m.keys[hart] = append(m.keys[hart], k)
	m.entries[hart] = append(m.entries[hart], entry)
}

func (m *model) flush(hart, space int) int {
	var keys []api.Key
	var entries []uint32
	for i, k := range m.keys[hart] {
		if k.Space != space {
			keys = append(keys, k)
			entries = append(entries, m.entries[hart][i])
		}
	}
	n := len(m.keys[hart]) - len(keys)
	m.keys[hart], m.entries[hart] = keys, entries
	return n
}

func (m *model) pending(hart int) []int {
	var l []int
	for i, w := range m.waits {
		if slices.Contains(w, hart) {
			l = append(l, i+1)
		}
	}
	return l
}

func (m *model) handle(hart int) int {
	l := m.pending(hart)
	for _, id := range l {
		m.flush(hart, m.spaces[id-1])
		m.waits[id-1] = slices.DeleteFunc(m.waits[id-1], func(h int) bool { return h == hart })
	}
	return len(l)
}

// dice are numbers that are the same in each run.
type dice uint64

func (d *dice) below(n int) int {
	*d = *d*6364136223846793005 + 1442695040888963407
	return int(uint64(*d)>>33) % n
}

// targets is some of the harts, in some order.
func (d *dice) targets(harts int) []int {
	var l []int
	for hart := range harts {
		if d.below(3) == 0 {
			l = slices.Insert(l, d.below(len(l)+1), hart)
		}
	}
	return l
}

func step(t *testing.T, r *dice, x *tlb.Tlb, m *model) {
	t.Helper()
	harts := len(m.keys)
	hart, space := r.below(harts), r.below(4)
	switch r.below(16) {
	case 0:
		if a, b := x.Flush(hart, space), m.flush(hart, space); a != b {
			t.Fatal("Flush", hart, space, a, b)
		}
	case 1:
		if a, b := x.Handle(hart), m.handle(hart); a != b {
			t.Fatal("Handle", hart, a, b)
		}
	case 2:
		l := r.targets(harts)
		id, e := x.Start(space, l)
		m.spaces, m.waits = append(m.spaces, space), append(m.waits, slices.Clone(l))
		if id != len(m.spaces) || e != api.OK {
			t.Fatal("Start", l, id, e)
		}
	default:
		k, entry := key(space, r.below(m.size+2)), uint32(r.below(1000))
		if e := x.Fill(hart, k, entry); e != api.OK {
			t.Fatal("Fill", hart, k, e)
		}
		m.fill(hart, k, entry)
	}
}

func hold(t *testing.T, x *tlb.Tlb, m *model) {
	t.Helper()
	for hart, keys := range m.keys {
		if l := x.Kept(hart); !slices.Equal(l, keys) {
			t.Fatal("Kept", hart, l, keys)
		}
		for i, k := range keys {
			if entry, ok := x.Look(hart, k); entry != m.entries[hart][i] || !ok {
				t.Fatal("Look", hart, k, entry, ok)
			}
		}
		if l := x.Pending(hart); !slices.Equal(l, m.pending(hart)) {
			t.Fatal("Pending", hart, l, m.pending(hart))
		}
	}
	open := 0
	for i, w := range m.waits {
		if x.Over(i+1) != (len(w) == 0) {
			t.Fatal("Over", i+1, w)
		}
		open += min(1, len(w))
	}
	if x.Open() != open || x.Over(len(m.waits)+1) {
		t.Fatal("Open", x.Open(), open)
	}
}

// P7.1, P7.2, P7.4, P7.5: whatever is filled, flushed, shot down and handled in whatever order, harts keep what the chapter tells.
func TestAgainstModel(t *testing.T) {
	r := dice(7)
	for _, harts := range []int{1, 2, 5, 8} {
		for _, size := range []int{1, 2, 7, 64} {
			x, e := tlb.New(harts, size)
			if e != api.OK {
				t.Fatal("New", e)
			}
			m := makeModel(harts, size)
			for range 400 {
				step(t, &r, x, m)
				hold(t, x, m)
			}
		}
	}
}
