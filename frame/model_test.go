package frame_test

import (
	"bytes"
	"slices"
	"testing"

	"parapet/api"
	"parapet/frame"
	"parapet/phys"
)

const common = -1

// model is frames as the chapter tells them: each free one has a place, and its turn there.
type model struct {
	harts  int
	counts map[int]int
	place  map[int]int // of a free frame: a hart, or common
	turn   map[int]int // of a hart's frame: it rises along the list
	next   int
}

func makeModel(first, count, harts int) *model {
	m := &model{harts: harts, counts: map[int]int{}, place: map[int]int{}, turn: map[int]int{}}
	for i := range count {
		m.place[first+i] = common
	}
	return m
}

// list is the frames of a place, in order: the common ones by their numbers, a hart's by their turns.
func (m *model) list(where int) []int {
	var l []int
	for n, p := range m.place {
		if p == where {
			l = append(l, n)
		}
	}
	slices.SortFunc(l, func(a, b int) int {
		if where == common {
			return a - b
		}
		return m.turn[a] - m.turn[b]
	})
	return l
}

func (m *model) put(where int, frames []int) {
	for _, n := range frames {
		m.place[n], m.turn[n] = where, m.next
		m.next++
	}
}

func (m *model) alloc(hart int) (int, api.Errno) {
	if len(m.place) == 0 {
		return 0, api.ErrFull
	}
	if len(m.list(hart)) == 0 {
		from, n := common, 8
		if len(m.list(common)) == 0 {
			from = 0
			for h := range m.harts {
				if len(m.list(h)) > len(m.list(from)) {
					from = h
				}
			}
			n = len(m.list(from)) - len(m.list(from))/2
		}
		l := m.list(from)
		m.put(hart, l[:min(n, len(l))])
	}
	l := m.list(hart)
	n := l[len(l)-1]
	delete(m.place, n)
	m.counts[n] = 1
	return n, api.OK
}

func (m *model) decr(hart, n int) (bool, api.Errno) {
	if m.counts[n] == 0 {
		return false, api.ErrFrame
	}
	m.counts[n]--
	if m.counts[n] > 0 {
		return false, api.OK
	}
	delete(m.counts, n)
	m.put(hart, []int{n})
	if l := m.list(hart); len(l) > 16 {
		m.put(common, l[:8])
	}
	return true, api.OK
}

func (m *model) incr(n int) api.Errno {
	if m.counts[n] == 0 {
		return api.ErrFrame
	}
	m.counts[n]++
	return api.OK
}

// dice are numbers that are the same in each run.
type dice uint64

func (d *dice) below(n int) int {
	*d = *d*6364136223846793005 + 1442695040888963407
	return int(uint64(*d)>>33) % n
}

// step does one call; greed says how often of 10 it is an Alloc.
func step(t *testing.T, r *dice, p *phys.Mem, f *frame.Frames, m *model, greed int) {
	t.Helper()
	hart := r.below(m.harts)
	n := first + r.below(34)
	if r.below(10) < greed {
		got, e := f.Alloc(hart)
		want, wantE := m.alloc(hart)
		if got != want || e != wantE {
			t.Fatal("Alloc", hart, got, e, want, wantE)
		}
		if e == api.OK {
			if b, _ := p.Frame(got); !bytes.Equal(b, make([]byte, api.PageSize)) {
				t.Fatal("frame", got, "is not zeros")
			}
			p.Write(got*api.PageSize+r.below(256), []byte{byte(got)})
		}
		return
	}
	if r.below(6) == 0 {
		if e, want := f.Incr(n), m.incr(n); e != want {
			t.Fatal("Incr", n, e, want)
		}
		return
	}
	freed, e := f.Decr(hart, n)
	want, wantE := m.decr(hart, n)
	if freed != want || e != wantE {
		t.Fatal("Decr", hart, n, freed, e, want, wantE)
	}
}

func hold(t *testing.T, f *frame.Frames, m *model, all int) {
	t.Helper()
	for hart := range m.harts {
		if l := f.List(hart); !slices.Equal(l, m.list(hart)) {
			t.Fatal("List", hart, l, m.list(hart))
		}
	}
	if l := f.Common(); !slices.Equal(l, m.list(common)) {
		t.Fatal("Common", l, m.list(common))
	}
	if f.Free() != len(m.place) || f.Used() != len(m.counts) || f.Free()+f.Used() != all || !f.Right() {
		t.Fatal("Free, Used, Right", f.Free(), f.Used(), f.Right())
	}
	at := -1
	for n, c := range f.All() {
		if n <= at || c != m.counts[n] || c != f.Count(n) {
			t.Fatal("All", n, c, m.counts[n], f.Count(n))
		}
		at = n
		all--
	}
	if all != f.Free() {
		t.Fatal("All goes not over all", all)
	}
}

// P6.2, P6.3, P6.5, P6.6: whatever harts take and give in whatever order, the frames are what the chapter tells; none is lost, and nobody shares.
func TestAgainstModel(t *testing.T) {
	r := dice(6)
	for _, harts := range []int{1, 2, 3, 8} {
		for _, frames := range []int{1, 5, 20, 34} {
			p := noise(t, size)
			f, e := frame.New(p, first, frames, harts)
			if e != api.OK {
				t.Fatal("New", e)
			}
			m := makeModel(first, frames, harts)
			for i := range 600 {
				step(t, &r, p, f, m, []int{7, 1, 4}[i/100%3])
				hold(t, f, m, frames)
			}
		}
	}
}
