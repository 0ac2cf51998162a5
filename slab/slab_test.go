package slab_test

import (
	"math"
	"slices"
	"testing"

	"parapet/api"
	"parapet/slab"
)

// sizes is the bytes of each kind, as the chapter names them.
var sizes = map[int]int{
	api.KindProcess: 256, api.KindThread: 128, api.KindSpace: 64, api.KindRegion: 32, api.KindFile: 64,
	api.KindPipe: 576, api.KindName: 64, api.KindBuffer: 576, api.KindWaiter: 32, api.KindInode: 128,
}

// per is how many of each kind a slab holds.
var per = map[int]int{
	api.KindProcess: 8, api.KindThread: 16, api.KindSpace: 32, api.KindRegion: 64, api.KindFile: 32,
	api.KindPipe: 3, api.KindName: 32, api.KindBuffer: 3, api.KindWaiter: 64, api.KindInode: 16,
}

var noKinds = []int{math.MinInt, -1, 0, 11, 12, 64, 1 << 32, math.MaxInt}

func make1(t *testing.T, limit int) *slab.Heap {
	t.Helper()
	h, e := slab.New(limit)
	if e != api.OK || h == nil {
		t.Fatal("New", limit, h, e)
	}
	return h
}

// makes makes objects of a kind, and holds their ids.
func makes(t *testing.T, h *slab.Heap, kind, owner int, want ...int) {
	t.Helper()
	for _, w := range want {
		if id, e := h.Alloc(kind, owner); id != w || e != api.OK {
			t.Fatalf("Alloc(%d, %d): %d %v, not %d", kind, owner, id, e, w)
		}
	}
}

func frees(t *testing.T, h *slab.Heap, ids ...int) {
	t.Helper()
	for _, id := range ids {
		if e := h.Free(id); e != api.OK {
			t.Fatalf("Free(%d): %v", id, e)
		}
	}
}

// object is what a heap tells of one.
type object struct{ id, kind, owner int }

// objects is what All goes over.
func objects(h *slab.Heap) []object {
	var l []object
	for id, kind := range h.All() {
		l = append(l, object{id, kind, h.Owner(id)})
	}
	return l
}

// stands holds all objects, and what is told of them together, of a heap with so many slabs.
func stands(t *testing.T, h *slab.Heap, slabs int, want ...object) {
	t.Helper()
	if l := objects(h); !slices.Equal(l, want) {
		t.Errorf("All: %v, not %v", l, want)
	}
	used := 0
	owned := map[int]int{}
	for _, o := range want {
		used += sizes[o.kind]
		owned[o.owner] += sizes[o.kind]
		if h.Kind(o.id) != o.kind || h.Owner(o.id) != o.owner {
			t.Error("Kind, Owner", o, h.Kind(o.id), h.Owner(o.id))
		}
	}
	if h.Live() != len(want) || h.Used() != used || h.Bytes() != 2048*slabs {
		t.Error("Live, Used, Bytes", h.Live(), h.Used(), h.Bytes(), "not", len(want), used, 2048*slabs)
	}
	for owner := -2; owner < 10; owner++ {
		if n := h.Owned(owner); n != owned[owner] {
			t.Errorf("Owned(%d): %d, not %d", owner, n, owned[owner])
		}
	}
}

// rooms holds how many of each kind could be made, by what another heap that is the same makes.
func rooms(t *testing.T, h *slab.Heap) {
	t.Helper()
	for kind := range sizes {
		f := h.Fork()
		n := 0
		for {
			if _, e := f.Alloc(kind, 1); e != api.OK {
				break
			}
			n++
		}
		if got := h.Room(kind); got != n {
			t.Errorf("Room(%d): %d, not %d", kind, got, n)
		}
	}
}

// P8.1

func TestSize(t *testing.T) {
	for kind, want := range sizes {
		if n := slab.Size(kind); n != want {
			t.Error("Size", kind, n)
		}
	}
	for _, kind := range noKinds {
		if n := slab.Size(kind); n != 0 {
			t.Error("Size of no kind", kind, n)
		}
	}
}

func TestNew(t *testing.T) {
	for _, limit := range []int{math.MinInt, -2048, -1, 1<<20 + 1, 1 << 21, math.MaxInt} {
		if h, e := slab.New(limit); h != nil || e != api.ErrArg {
			t.Error("New", limit, h, e)
		}
	}
	for _, limit := range []int{0, 1, 2047, 2048, 5000, 1 << 20} {
		h := make1(t, limit)
		stands(t, h, 0)
		if h.Limit() != limit {
			t.Error("Limit", h.Limit())
		}
		for kind := range sizes {
			if n := h.Room(kind); n != limit/2048*per[kind] {
				t.Error("Room", limit, kind, n)
			}
		}
	}
}

// Each kind's slab holds so many, and no more; its places are filled from the least on.
func TestAllocFillsASlab(t *testing.T) {
	for kind, n := range per {
		h := make1(t, 6000)
		for at := range 2 {
			for place := range n {
				makes(t, h, kind, 7, 64*at+place)
			}
		}
		if h.Live() != 2*n || h.Used() != 2*n*sizes[kind] || h.Bytes() != 4096 || h.Owned(7) != h.Used() {
			t.Error(kind, h.Live(), h.Used(), h.Bytes(), h.Owned(7))
		}
		if id, e := h.Alloc(kind, 7); id != 0 || e != api.ErrFull {
			t.Error("Alloc above the limit", kind, id, e)
		}
		if h.Live() != 2*n || h.Bytes() != 4096 || h.Room(kind) != 0 {
			t.Error("something has changed", kind)
		}
	}
}

func TestAllocTakesTheLeast(t *testing.T) {
	h := make1(t, 1<<20)
	makes(t, h, api.KindPipe, 1, 0, 1, 2, 64)
	makes(t, h, api.KindBuffer, 2, 128, 129)
	makes(t, h, api.KindPipe, 1, 65, 66, 192, 193)
	frees(t, h, 1, 65, 192)
	makes(t, h, api.KindPipe, 3, 1, 65, 192, 194)
	frees(t, h, 66, 0, 2, 129)
	makes(t, h, api.KindPipe, 4, 0, 2, 66, 256)
	makes(t, h, api.KindBuffer, 5, 129, 130, 320)
	makes(t, h, api.KindWaiter, 6, 384, 385)
	stands(t, h, 7,
		object{0, 6, 4}, object{1, 6, 3}, object{2, 6, 4}, object{64, 6, 1}, object{65, 6, 3}, object{66, 6, 4},
		object{128, 8, 2}, object{129, 8, 5}, object{130, 8, 5}, object{192, 6, 3}, object{193, 6, 1}, object{194, 6, 3},
		object{256, 6, 4}, object{320, 8, 5}, object{384, 9, 6}, object{385, 9, 6})
	rooms(t, h)
}

// A slab's number is anybody's, once its last object is gone.
func TestSlabsGo(t *testing.T) {
	h := make1(t, 4*2048)
	makes(t, h, api.KindSpace, 1, 0, 1)
	makes(t, h, api.KindFile, 1, 64)
	makes(t, h, api.KindName, 1, 128, 129)
	frees(t, h, 0)
	stands(t, h, 3, object{1, 3, 1}, object{64, 5, 1}, object{128, 7, 1}, object{129, 7, 1})
	frees(t, h, 64)
	stands(t, h, 2, object{1, 3, 1}, object{128, 7, 1}, object{129, 7, 1})
	frees(t, h, 1)
	stands(t, h, 1, object{128, 7, 1}, object{129, 7, 1})
	makes(t, h, api.KindInode, 2, 0)
	makes(t, h, api.KindSpace, 3, 64)
	makes(t, h, api.KindThread, 4, 192)
	stands(t, h, 4, object{0, 10, 2}, object{64, 3, 3}, object{128, 7, 1}, object{129, 7, 1}, object{192, 2, 4})
	if id, e := h.Alloc(api.KindFile, 1); id != 0 || e != api.ErrFull {
		t.Error("Alloc", id, e)
	}
	frees(t, h, 128, 129)
	makes(t, h, api.KindFile, 5, 128)
	frees(t, h, 0, 64, 128, 192)
	stands(t, h, 0)
	rooms(t, h)
}

func TestAllocAtTheLimit(t *testing.T) {
	for _, c := range []struct{ limit, slabs int }{{0, 0}, {2047, 0}, {2048, 1}, {4095, 1}, {4096, 2}, {1<<20 - 1, 511}, {1 << 20, 512}} {
		h := make1(t, c.limit)
		for i := range 3 * c.slabs {
			makes(t, h, api.KindBuffer, i, 64*(i/3)+i%3)
		}
		for kind := range sizes {
			if id, e := h.Alloc(kind, 1); id != 0 || e != api.ErrFull {
				t.Error("Alloc", c, kind, id, e)
			}
			if h.Room(kind) != 0 || h.Fits([]int{kind}) {
				t.Error("Room, Fits", c, kind)
			}
		}
		if h.Live() != 3*c.slabs || h.Bytes() != 2048*c.slabs {
			t.Error("Live, Bytes", c, h.Live(), h.Bytes())
		}
	}
}

func TestAllocOfNoKind(t *testing.T) {
	for _, limit := range []int{0, 4096} {
		h := make1(t, limit)
		for _, kind := range noKinds {
			if id, e := h.Alloc(kind, 1); id != 0 || e != api.ErrKind {
				t.Error("Alloc", kind, id, e)
			}
			if n := h.Room(kind); n != 0 {
				t.Error("Room", kind, n)
			}
		}
		stands(t, h, 0)
	}
}

// noObjects is ids of none, where 0, 1, 66 are, and 63, 64 and 65 are free.
var noObjects = []int{math.MinInt, math.MinInt + 1, -64, -63, -62, -1, 2, 3, 62, 63, 64, 65, 67, 127, 128, 129, 194, 1 << 32, math.MaxInt}

func TestFreeOfNone(t *testing.T) {
	h := make1(t, 1<<20)
	makes(t, h, api.KindRegion, 1, 0, 1)
	makes(t, h, api.KindPipe, 2, 64, 65, 66)
	frees(t, h, 64, 65)
	want := []object{{0, 4, 1}, {1, 4, 1}, {66, 6, 2}}
	for _, id := range noObjects {
		if e := h.Free(id); e != api.ErrNone {
			t.Error("Free", id, e)
		}
		if h.Kind(id) != 0 || h.Owner(id) != 0 {
			t.Error("Kind, Owner", id, h.Kind(id), h.Owner(id))
		}
	}
	stands(t, h, 2, want...)
	frees(t, h, 66)
	if e := h.Free(66); e != api.ErrNone {
		t.Error("Free of one that is gone", e)
	}
	stands(t, h, 1, want[:2]...)
}

// P8.2

func TestOwners(t *testing.T) {
	h := make1(t, 1<<20)
	for i, owner := range []int{0, -1, math.MinInt, math.MaxInt, 0} {
		makes(t, h, api.KindWaiter, owner, i)
	}
	makes(t, h, api.KindProcess, math.MinInt, 64)
	for owner, want := range map[int]int{0: 64, -1: 32, math.MinInt: 288, math.MaxInt: 32, 1: 0} {
		if n := h.Owned(owner); n != want {
			t.Error("Owned", owner, n)
		}
	}
	if h.Owner(2) != math.MinInt || h.Owner(3) != math.MaxInt || h.Owner(4) != 0 || h.Owner(64) != math.MinInt {
		t.Error("Owner")
	}
	frees(t, h, 2)
	makes(t, h, api.KindWaiter, 5, 2)
	if h.Owned(math.MinInt) != 256 || h.Owned(5) != 32 || h.Owner(2) != 5 {
		t.Error("Owned behind a Free")
	}
}

func TestRoom(t *testing.T) {
	h := make1(t, 5*2048+100)
	rooms(t, h)
	makes(t, h, api.KindPipe, 1, 0, 1)
	if h.Room(api.KindPipe) != 13 || h.Room(api.KindBuffer) != 12 || h.Room(api.KindRegion) != 256 {
		t.Error("Room", h.Room(api.KindPipe), h.Room(api.KindBuffer), h.Room(api.KindRegion))
	}
	makes(t, h, api.KindRegion, 1, 64)
	makes(t, h, api.KindPipe, 1, 2, 128, 129)
	frees(t, h, 1)
	if h.Room(api.KindPipe) != 8 || h.Room(api.KindBuffer) != 6 || h.Room(api.KindRegion) != 191 {
		t.Error("Room", h.Room(api.KindPipe), h.Room(api.KindBuffer), h.Room(api.KindRegion))
	}
	rooms(t, h)
}

func TestFits(t *testing.T) {
	h := make1(t, 3*2048)
	makes(t, h, api.KindPipe, 1, 0, 1)
	makes(t, h, api.KindProcess, 1, 64)
	const process, region, pipe, buffer, waiter = api.KindProcess, api.KindRegion, api.KindPipe, api.KindBuffer, api.KindWaiter
	for _, c := range []struct {
		kinds []int
		want  bool
	}{
		{nil, true}, {[]int{}, true},
		{[]int{pipe}, true}, {[]int{pipe, pipe, pipe, pipe}, true}, {[]int{pipe, pipe, pipe, pipe, pipe}, false},
		{[]int{buffer, buffer, buffer}, true}, {[]int{buffer, buffer, buffer, buffer}, false},
		{[]int{buffer, pipe}, true}, {[]int{pipe, buffer}, true}, {[]int{pipe, pipe, buffer}, false}, {[]int{buffer, pipe, pipe}, false},
		{[]int{region, waiter}, false}, {slices.Repeat([]int{region}, 64), true}, {slices.Repeat([]int{waiter}, 65), false},
		{append(slices.Repeat([]int{process}, 7), region), true}, {append(slices.Repeat([]int{process}, 8), region), false},
		{append(slices.Repeat([]int{process}, 15), pipe), true}, {slices.Repeat([]int{process}, 16), false},
	} {
		if got := h.Fits(c.kinds); got != c.want {
			t.Error("Fits", c.kinds, got)
		}
	}
	for _, kind := range noKinds {
		for _, kinds := range [][]int{{kind}, {pipe, kind}, {kind, pipe}, {pipe, pipe, pipe, pipe, kind}} {
			if h.Fits(kinds) {
				t.Error("Fits of no kind", kinds)
			}
		}
	}
	stands(t, h, 2, object{0, 6, 1}, object{1, 6, 1}, object{64, 1, 1})
	if empty := make1(t, 2047); !empty.Fits(nil) || empty.Fits([]int{waiter}) {
		t.Error("Fits of no slab")
	}
}

func TestAll(t *testing.T) {
	h := make1(t, 1<<20)
	seq := h.All()
	for range seq {
		t.Error("All of none")
	}
	makes(t, h, api.KindWaiter, 1, 0, 1, 2)
	makes(t, h, api.KindPipe, 1, 64, 65)
	makes(t, h, api.KindProcess, 1, 128)
	frees(t, h, 1)
	want := []object{{0, 9, 1}, {2, 9, 1}, {64, 6, 1}, {65, 6, 1}, {128, 1, 1}}
	for range 2 {
		var l []object
		for id, kind := range seq {
			l = append(l, object{id, kind, 1})
		}
		if !slices.Equal(l, want) {
			t.Error("All", l)
		}
	}
	for n := range len(want) {
		var l []object
		for id, kind := range seq {
			l = append(l, object{id, kind, 1})
			if len(l) > n {
				break
			}
		}
		if !slices.Equal(l, want[:n+1]) {
			t.Error("All, stopped", l)
		}
	}
	stands(t, h, 3, want...)
}

// A slab of 64 has its last place, too.
func TestAllOfAFullSlab(t *testing.T) {
	h := make1(t, 2048)
	for h.Room(api.KindRegion) > 0 {
		h.Alloc(api.KindRegion, 1)
	}
	at := 0
	for id, kind := range h.All() {
		if id != at || kind != api.KindRegion {
			t.Fatal("All", id, kind)
		}
		at++
	}
	if at != 64 {
		t.Error("All", at)
	}
}

// The iterator takes one look, when it is ranged over: not when it is made, and not again.
func TestAllIsAsTheHeapIsAtFirst(t *testing.T) {
	h := make1(t, 1<<20)
	seq := h.All()
	makes(t, h, api.KindWaiter, 1, 0, 1)
	makes(t, h, api.KindPipe, 1, 64, 65)
	var l []int
	for id, kind := range seq {
		l = append(l, id, kind)
		if id == 0 {
			frees(t, h, 1, 64, 65)
			makes(t, h, api.KindWaiter, 1, 1, 2)
			makes(t, h, api.KindProcess, 1, 64)
		}
	}
	if !slices.Equal(l, []int{0, 9, 1, 9, 64, 6, 65, 6}) {
		t.Error("All", l)
	}
	stands(t, h, 2, object{0, 9, 1}, object{1, 9, 1}, object{2, 9, 1}, object{64, 1, 1})
}

// P8.3

func TestFork(t *testing.T) {
	h := make1(t, 3*2048)
	makes(t, h, api.KindPipe, 1, 0, 1)
	makes(t, h, api.KindProcess, 2, 64)
	was := []object{{0, 6, 1}, {1, 6, 1}, {64, 1, 2}}
	f := h.Fork()
	if f == nil || f.Limit() != 3*2048 {
		t.Fatal("Fork", f)
	}
	stands(t, f, 2, was...)
	rooms(t, f)
	makes(t, f, api.KindPipe, 3, 2)
	makes(t, f, api.KindThread, 3, 128)
	frees(t, f, 64)
	stands(t, h, 2, was...)
	makes(t, h, api.KindPipe, 4, 2)
	frees(t, h, 0, 1)
	stands(t, h, 2, object{2, 6, 4}, object{64, 1, 2})
	stands(t, f, 2, object{0, 6, 1}, object{1, 6, 1}, object{2, 6, 3}, object{128, 2, 3})
	g := f.Fork()
	frees(t, g, 128)
	makes(t, f, api.KindThread, 5, 129)
	stands(t, g, 1, object{0, 6, 1}, object{1, 6, 1}, object{2, 6, 3})
	stands(t, f, 2, object{0, 6, 1}, object{1, 6, 1}, object{2, 6, 3}, object{128, 2, 3}, object{129, 2, 5})
}

// What one makes behind the slabs that both have the other one does not see.
func TestForksGrowApart(t *testing.T) {
	h := make1(t, 1<<20)
	for i := range 5 {
		makes(t, h, i+1, 1, 64*i)
		f, g := h.Fork(), h.Fork()
		makes(t, f, 9, 2, 64*(i+1))
		makes(t, g, 10, 3, 64*(i+1))
		if f.Kind(64*(i+1)) != 9 || g.Kind(64*(i+1)) != 10 || h.Kind(64*(i+1)) != 0 {
			t.Error("Kind", i)
		}
	}
}

func TestOfNoHeap(t *testing.T) {
	for _, h := range []*slab.Heap{nil, {}} {
		for _, n := range []int{-1, 0, 1, 11, 64} {
			if id, e := h.Alloc(n, 1); id != 0 || e != api.ErrClosed {
				t.Error("Alloc", id, e)
			}
			if e := h.Free(n); e != api.ErrClosed {
				t.Error("Free", e)
			}
			if h.Kind(n) != 0 || h.Owner(n) != 0 || h.Owned(n) != 0 || h.Room(n) != 0 {
				t.Error("Kind, Owner, Owned, Room")
			}
			if h.Fits([]int{n}) {
				t.Error("Fits")
			}
		}
		if h.Live() != 0 || h.Used() != 0 || h.Bytes() != 0 || h.Limit() != 0 || h.Fits(nil) {
			t.Error("Live, Used, Bytes, Limit, Fits")
		}
		if f := h.Fork(); f != nil {
			t.Error("Fork", f)
		}
		for id, kind := range h.All() {
			t.Error("All", id, kind)
		}
	}
}

// R3

func TestKindsAreNotChanged(t *testing.T) {
	h := make1(t, 2048)
	room := []int{api.KindPipe, api.KindPipe, 7, 7}
	if !h.Fits(room[:2]) || !slices.Equal(room, []int{api.KindPipe, api.KindPipe, 7, 7}) {
		t.Error("Fits", room)
	}
}

func TestExample(t *testing.T) {
	h := make1(t, 4096)
	makes(t, h, api.KindPipe, 1, 0, 1, 2, 64)
	if id, e := h.Alloc(api.KindProcess, 1); id != 0 || e != api.ErrFull {
		t.Error("Alloc", id, e)
	}
	frees(t, h, 64)
	makes(t, h, api.KindProcess, 1, 64)
}
