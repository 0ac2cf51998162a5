package slab_test

import (
	"slices"
	"testing"

	"parapet/api"
	"parapet/slab"
)

// model is a heap as the chapter tells it, by its objects alone: a slab is whatever ids with one number have in common.
type model struct {
	limit   int
	objects []object // rising
}

// slabs is the slabs' kinds, and how many objects each has, by their numbers.
func (m *model) slabs() (kinds, counts map[int]int) {
	kinds, counts = map[int]int{}, map[int]int{}
	for _, o := range m.objects {
		kinds[o.id/64] = o.kind
		counts[o.id/64]++
	}
	return kinds, counts
}

// at is where in the list an id stands, or would stand.
func (m *model) at(id int) (int, bool) {
	return slices.BinarySearchFunc(m.objects, id, func(o object, id int) int { return o.id - id })
}

// place is the id that a new object has.
func (m *model) place(kind int) (int, bool) {
	kinds, counts := m.slabs()
	n := 0
	for n < 512 && (kinds[n] != kind || counts[n] == per[kind]) {
		n++
	}
	if n == 512 {
		if 2048*len(kinds)+2048 > m.limit {
			return 0, false
		}
		n = 0
		for kinds[n] != 0 {
			n++
		}
	}
	id := 64 * n
	for {
		if _, there := m.at(id); !there {
			return id, true
		}
		id++
	}
}

func (m *model) alloc(kind, owner int) (int, api.Errno) {
	if sizes[kind] == 0 {
		return 0, api.ErrKind
	}
	id, ok := m.place(kind)
	if !ok {
		return 0, api.ErrFull
	}
	i, _ := m.at(id)
	m.objects = slices.Insert(m.objects, i, object{id, kind, owner})
	return id, api.OK
}

func (m *model) free(id int) api.Errno {
	i, ok := m.at(id)
	if !ok {
		return api.ErrNone
	}
	m.objects = slices.Delete(m.objects, i, i+1)
	return api.OK
}

// fits is as many of the kinds as can be made, one behind the other, in a model that goes on by itself.
func (m *model) fits(kinds []int) int {
	f := &model{limit: m.limit, objects: slices.Clone(m.objects)}
	for i, kind := range kinds {
		if _, e := f.alloc(kind, 1); e != api.OK {
			return i
		}
	}
	return len(kinds)
}

// dice are numbers that are the same in each run.
type dice uint64

func (d *dice) below(n int) int {
	*d = *d*6364136223846793005 + 1442695040888963407
	return int(uint64(*d)>>33) % n
}

// kinds is some kinds; now and then one is none.
func (d *dice) kinds(most int) []int {
	l := make([]int, d.below(most))
	for i := range l {
		l[i] = 1 + d.below(10)
		if d.below(100) == 0 {
			l[i] = 11 * d.below(2)
		}
	}
	return l
}

// step does one call; greed says how often of 10 it is an Alloc.
func step(t *testing.T, r *dice, h *slab.Heap, m *model, greed int) {
	t.Helper()
	if r.below(10) < greed {
		kind, owner := r.below(12), r.below(5)
		id, e := h.Alloc(kind, owner)
		if want, wantE := m.alloc(kind, owner); id != want || e != wantE {
			t.Fatal("Alloc", kind, owner, id, e, want, wantE)
		}
		return
	}
	id := r.below(m.limit/2048*64 + 70)
	if len(m.objects) > 0 && r.below(8) > 0 {
		id = m.objects[r.below(len(m.objects))].id
	}
	if e, want := h.Free(id), m.free(id); e != want {
		t.Fatal("Free", id, e, want)
	}
}

func hold(t *testing.T, r *dice, h *slab.Heap, m *model) {
	t.Helper()
	slabs, _ := m.slabs()
	stands(t, h, len(slabs), m.objects...)
	if h.Used() > h.Bytes() || h.Bytes() > h.Limit() || h.Limit() != m.limit {
		t.Fatal("Used, Bytes, Limit", h.Used(), h.Bytes(), h.Limit())
	}
	kinds := r.kinds(20)
	n := m.fits(kinds)
	if h.Fits(kinds) != (n == len(kinds)) || !h.Fits(kinds[:n]) {
		t.Fatal("Fits", kinds, n)
	}
	kind := 1 + r.below(10)
	if h.Room(kind) != m.fits(slices.Repeat([]int{kind}, 64*8)) {
		t.Fatal("Room", kind, h.Room(kind))
	}
	if t.Failed() {
		t.FailNow()
	}
}

// P8.1 to P8.5: whatever is made and freed in whatever order, the heap is what the chapter tells.
func TestAgainstModel(t *testing.T) {
	r := dice(8)
	for _, limit := range []int{0, 2048, 3*2048 + 5, 8 * 2048} {
		h := make1(t, limit)
		m := &model{limit: limit}
		for i := range 600 {
			step(t, &r, h, m, []int{8, 2, 5}[i/100%3])
			if i%10 == 0 {
				hold(t, &r, h, m)
			}
			if i%100 == 50 {
				h = h.Fork()
			}
		}
	}
}

// P8.5: what fits can be made; of what does not the last one that can't be made is refused.
func TestReservedIsThere(t *testing.T) {
	r := dice(85)
	for range 300 {
		h := make1(t, 2048*r.below(6))
		for _, kind := range r.kinds(40) {
			h.Alloc(kind, 1)
		}
		kinds := r.kinds(30)
		fits := h.Fits(kinds)
		made := 0
		for _, kind := range kinds {
			if _, e := h.Alloc(kind, 2); e != api.OK {
				break
			}
			made++
		}
		if fits != (made == len(kinds)) {
			t.Fatal("Fits", fits, made, kinds)
		}
	}
}

// told is what a heap tells of itself together.
type told struct {
	used, bytes, live int
	room              [12]int
}

func tell(h *slab.Heap) told {
	x := told{used: h.Used(), bytes: h.Bytes(), live: h.Live()}
	for kind := range x.room {
		x.room[kind] = h.Room(kind)
	}
	return x
}

// P8.6
func TestMadeAndFreedAgain(t *testing.T) {
	r := dice(86)
	for range 200 {
		h := make1(t, 2048*(1+r.below(8)))
		for _, kind := range r.kinds(60) {
			h.Alloc(kind, 1)
		}
		was, all := tell(h), objects(h)
		var made []int
		for _, kind := range r.kinds(60) {
			if id, e := h.Alloc(kind, 2); e == api.OK {
				made = slices.Insert(made, r.below(len(made)+1), id)
			}
			if len(made) > 0 && r.below(4) == 0 {
				frees(t, h, made[0])
				made = made[1:]
			}
		}
		frees(t, h, made...)
		if tell(h) != was || !slices.Equal(objects(h), all) {
			t.Fatal("not as it was", tell(h), was)
		}
	}
}
