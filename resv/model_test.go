package resv_test

import (
	"slices"
	"testing"

	"parapet/api"
	"parapet/resv"
)

// model is a gate as the chapter tells it: two lists, and bytes that are added up anew each time.
type model struct {
	heap, live int
	inside     []api.Seat
	waiting    []api.Seat
}

func (m *model) reserved() int {
	n := 0
	for _, s := range m.inside {
		n += s.Bound
	}
	return n
}

// let lets in those that wait, from the first on, and tells them.
func (m *model) let() []int {
	var l []int
	for len(m.waiting) > 0 && m.live+m.reserved()+m.waiting[0].Bound <= m.heap {
		s := m.waiting[0]
		s.Waits = false
		m.waiting = m.waiting[1:]
		m.inside = append(m.inside, s)
		l = append(l, s.Id)
	}
	return l
}

// find is where an id is in a list, below 0 if it is not there.
func find(l []api.Seat, id int) int {
	for i, s := range l {
		if s.Id == id {
			return i
		}
	}
	return -1
}

func (m *model) enter(id, bound int) (bool, api.Errno) {
	if bound < 0 {
		return false, api.ErrArg
	}
	if find(m.inside, id) >= 0 || find(m.waiting, id) >= 0 {
		return false, api.ErrBusy
	}
	if bound > m.heap {
		return false, api.ErrLong
	}
	if len(m.inside)+len(m.waiting) >= 64 {
		return false, api.ErrFull
	}
	if len(m.waiting) == 0 && m.live+m.reserved()+bound <= m.heap {
		m.inside = append(m.inside, api.Seat{Id: id, Bound: bound})
		return true, api.OK
	}
	m.waiting = append(m.waiting, api.Seat{Id: id, Bound: bound, Waits: true})
	return false, api.OK
}

func (m *model) take(id, n int) api.Errno {
	if n < 0 {
		return api.ErrArg
	}
	i := find(m.inside, id)
	if i < 0 {
		return api.ErrNone
	}
	if n > m.inside[i].Bound {
		return api.ErrBound
	}
	m.inside[i].Bound -= n
	m.inside[i].Taken += n
	m.live += n
	return api.OK
}

func (m *model) give(n int) ([]int, api.Errno) {
	if n < 0 || n > m.live {
		return nil, api.ErrArg
	}
	m.live -= n
	return m.let(), api.OK
}

func (m *model) leave(id int) ([]int, api.Errno) {
	if i := find(m.inside, id); i >= 0 {
		m.inside = slices.Delete(m.inside, i, i+1)
	} else if i := find(m.waiting, id); i >= 0 {
		m.waiting = slices.Delete(slices.Clone(m.waiting), i, i+1)
	} else {
		return nil, api.ErrNone
	}
	return m.let(), api.OK
}

// dice are numbers that are the same in each run.
type dice uint64

func (d *dice) below(n int) int {
	*d = *d*6364136223846793005 + 1442695040888963407
	return int(uint64(*d)>>33) % n
}

func step(t *testing.T, r *dice, g *resv.Gate, m *model, ids int) {
	t.Helper()
	id, n := r.below(ids), r.below(m.heap/4+2)-1
	switch r.below(8) {
	case 0, 1, 2:
		if r.below(8) == 0 {
			n = r.below(m.heap + 3)
		}
		a, e := g.Enter(id, n)
		if b, f := m.enter(id, n); a != b || e != f {
			t.Fatal("Enter", id, n, a, e, b, f)
		}
	case 3, 4:
		if e, f := g.Take(id, n), m.take(id, n); e != f {
			t.Fatal("Take", id, n, e, f)
		}
	case 5, 6:
		a, e := g.Give(n)
		if b, f := m.give(n); !slices.Equal(a, b) || e != f {
			t.Fatal("Give", n, a, e, b, f)
		}
	default:
		a, e := g.Leave(id)
		if b, f := m.leave(id); !slices.Equal(a, b) || e != f {
			t.Fatal("Leave", id, a, e, b, f)
		}
	}
}

func hold(t *testing.T, g *resv.Gate, m *model) {
	t.Helper()
	if l := g.Seats(); !slices.Equal(l, slices.Concat(m.inside, m.waiting)) {
		t.Fatal("Seats", l, m.inside, m.waiting)
	}
	h := g.Heap()
	if h != (api.Heap{Size: m.heap, Live: m.live, Reserved: m.reserved()}) {
		t.Fatal("Heap", h)
	}
	if h.Live < 0 || h.Reserved < 0 || h.Live+h.Reserved > h.Size {
		t.Fatal("above the heap", h)
	}
	if g.Stalled() != (len(m.waiting) > 0 && len(m.inside) == 0) {
		t.Fatal("Stalled", g.Stalled())
	}
}

// runs is gates of several heaps, with calls of few and many ids, for a play each.
func runs(t *testing.T, seed dice, play func(r *dice, g *resv.Gate, m *model, ids int)) {
	t.Helper()
	for _, heap := range []int{1, 2, 10, 100, 1 << 30} {
		for _, ids := range []int{3, 12, 90} {
			g, e := resv.New(heap)
			if e != api.OK {
				t.Fatal("New", e)
			}
			play(&seed, g, &model{heap: heap}, ids)
		}
	}
}

// P9.1 to P9.3, P9.5, P9.6: whoever comes, takes, gives and goes in whatever order, the gate stands as the chapter tells.
func TestAgainstModel(t *testing.T) {
	runs(t, 9, func(r *dice, g *resv.Gate, m *model, ids int) {
		for range 3000 {
			step(t, r, g, m, ids)
			hold(t, g, m)
		}
	})
}

// P9.5: whatever stands at the gate, each that is inside takes all of its bound, one after the other.
func TestNothingFails(t *testing.T) {
	runs(t, 10, func(r *dice, g *resv.Gate, m *model, ids int) {
		for range 20 {
			for range 60 {
				step(t, r, g, m, ids)
			}
			for _, s := range g.Seats() {
				if s.Waits {
					break
				}
				if e := g.Take(s.Id, s.Bound); e != api.OK || m.take(s.Id, s.Bound) != api.OK {
					t.Fatal("Take", s, e)
				}
			}
			hold(t, g, m)
			if h := g.Heap(); h.Reserved != 0 {
				t.Fatal("Heap", h)
			}
		}
	})
}

// P9.7: when all that are inside leave, and all is given back, over and over, everybody gets in, in order.
func TestNobodyWaitsForEver(t *testing.T) {
	runs(t, 11, func(r *dice, g *resv.Gate, m *model, ids int) {
		for range 200 {
			step(t, r, g, m, ids)
		}
		var want, got []int
		for _, s := range g.Seats() {
			if s.Waits {
				want = append(want, s.Id)
			}
		}
		for n := 0; len(g.Seats()) > 0 && n < 100; n++ {
			for _, s := range g.Seats() {
				if !s.Waits {
					l, _ := g.Leave(s.Id)
					got = append(got, l...)
				}
			}
			l, _ := g.Give(g.Heap().Live)
			got = append(got, l...)
		}
		if !slices.Equal(got, want) {
			t.Fatal("let in", got, "not", want)
		}
	})
}
