package image_test

import (
	"bytes"
	"math"
	"reflect"
	"slices"
	"testing"

	"parapet/api"
	"parapet/frame"
	"parapet/image"
	"parapet/phys"
	"parapet/ptab"
	"parapet/space"
	"parapet/tlb"
)

// first is the first frame that is given out.
const first = 2

// rig is a machine with a space on it.
type rig struct {
	*testing.T
	m *phys.Mem
	f *frame.Frames
	s *space.Space
}

// rigged is a space on a machine of two harts with so many frames for it, one of which is its root.
func rigged(t *testing.T, frames int) *rig {
	t.Helper()
	m, e := phys.New(first + frames)
	if e != api.OK {
		t.Fatal("phys.New", e)
	}
	m.Write(0, bytes.Repeat([]byte{0xa5}, m.Frames()*api.PageSize))
	f, e := frame.New(m, first, frames, 2)
	if e != api.OK {
		t.Fatal("frame.New", e)
	}
	x, e := tlb.New(2, 8)
	if e != api.OK {
		t.Fatal("tlb.New", e)
	}
	w, e := space.NewWorld(m, f, x)
	if e != api.OK {
		t.Fatal("NewWorld", e)
	}
	s, e := w.New(0)
	if e != api.OK {
		t.Fatal("New", e)
	}
	return &rig{t, m, f, s}
}

// lays holds what Lay tells.
func (r *rig) lays(what string, hart int, x api.Image, want api.Errno) {
	r.Helper()
	was := copied(x)
	if e := image.Lay(r.s, hart, x); e != want {
		r.Errorf("%s: Lay: %v, not %v", what, e, want)
	}
	if !same(x, was) {
		r.Errorf("%s: Lay has changed what it was given", what)
	}
}

// regions holds which pages belong to the space.
func (r *rig) regions(want ...api.Region) {
	r.Helper()
	if l := r.s.Regions(); !slices.Equal(l, want) {
		r.Errorf("Regions: %v, not %v", l, want)
	}
}

// loaded holds a page's bytes: some at its begin, zeros behind them, in a frame of its own that may be written.
func (r *rig) loaded(page int, b []byte) {
	r.Helper()
	is, ok := r.s.Page(page)
	if want := append(slices.Clone(b), make([]byte, api.PageSize-len(b))...); !ok || !bytes.Equal(is, want) {
		r.Errorf("page %d: %v %v", page, is, ok)
	}
	entry, _ := r.s.Table().Get(page)
	if ptab.Flags(entry) != api.PteValid|api.PteWrite || r.f.Count(ptab.Frame(entry)) != 1 {
		r.Errorf("page %d: %#x", page, entry)
	}
}

// empty holds that pages belong to the space, and have no entry.
func (r *rig) empty(pages ...int) {
	r.Helper()
	for _, page := range pages {
		b, ok := r.s.Page(page)
		entry, _ := r.s.Table().Get(page)
		if !ok || entry != 0 || !bytes.Equal(b, make([]byte, api.PageSize)) {
			r.Errorf("page %d: %#x %v %v", page, entry, b, ok)
		}
	}
}

// state is all that can be told of the machine.
func (r *rig) state() []any {
	b, _ := r.m.Read(0, r.m.Frames()*api.PageSize)
	return []any{string(b), r.f.Common(), r.f.List(0), r.f.List(1), r.s.Regions(), r.s.Frames(), r.s.Locked()}
}

// P23.2

func TestLay(t *testing.T) {
	r := rigged(t, 20)
	a, b := seg(3*256, 600), seg(0, 256)
	r.lays("Lay", 0, api.Image{Entry: 4, Segments: []api.Segment{a, b}, Zero: []api.Region{{First: 100, Count: 28}, {First: 1, Count: 1}}}, api.OK)
	r.regions(api.Region{First: 0, Count: 2}, api.Region{First: 3, Count: 3}, api.Region{First: 100, Count: 28})
	r.loaded(3, a.Bytes[:256])
	r.loaded(4, a.Bytes[256:512])
	r.loaded(5, a.Bytes[512:])
	r.loaded(0, b.Bytes)
	r.empty(1, 100, 110, 127)
	// The root, a leaf, and a frame for each page with bytes; none for zeros.
	if n := r.s.Frames(); n != 6 || r.f.Used() != 6 {
		t.Error("Frames", n, r.f.Used())
	}
	if r.s.Locked() != 0 || r.s.Id() != 1 {
		t.Error("something else of the space")
	}
}

// The frames come in the order of the Segments, and of their pages.
func TestLayTakesFramesInOrder(t *testing.T) {
	for hart := range 2 {
		r, other := rigged(t, 20), rigged(t, 20)
		r.lays("Lay", hart, ofSegments(seg(70*256, 300), seg(5*256, 1), seg(1*256, 513)), api.OK)
		for _, page := range []int{70, 71, 5, 1, 2, 3} {
			other.s.Map(page, 1)
			if e := other.s.Load(hart, page, nil); e != api.OK {
				t.Fatal("Load", e)
			}
			is, _ := r.s.Table().Get(page)
			want, _ := other.s.Table().Get(page)
			if is != want {
				t.Errorf("hart %d, page %d: %#x, not %#x", hart, page, is, want)
			}
		}
	}
}

func TestLayOfNoBytes(t *testing.T) {
	r := rigged(t, 1)
	r.lays("nothing", 0, api.Image{Entry: 4}, api.OK)
	r.regions()
	r.lays("zeros", 0, ofZero(api.Region{First: 0, Count: 128}), api.OK)
	r.regions(api.Region{First: 0, Count: 128})
	r.empty(0, 64, 127)
	if r.s.Frames() != 1 {
		t.Error("Frames", r.s.Frames())
	}
}

func TestLayOfTheMost(t *testing.T) {
	r := rigged(t, 67)
	g := seg(63*256, 16370)
	g.Bytes[16369] = 77
	r.lays("the most", 1, ofSegments(g), api.OK)
	r.regions(api.Region{First: 63, Count: 64})
	r.loaded(63, g.Bytes[:256])
	r.loaded(125, g.Bytes[62*256:63*256])
	r.loaded(126, g.Bytes[63*256:])
	if r.f.Free() != 0 || r.s.Frames() != 67 {
		t.Error("frames", r.f.Free(), r.s.Frames())
	}
}

func TestLayRefusesWhatMayNotBe(t *testing.T) {
	r := rigged(t, 20)
	was := r.state()
	r.lays("an Entry", 0, api.Image{Entry: 2, Segments: []api.Segment{seg(0, 9)}}, api.ErrImage)
	r.lays("a page twice", 0, ofSegments(seg(0, 257), seg(256, 1)), api.ErrImage)
	r.lays("a region", 0, api.Image{Segments: []api.Segment{seg(0, 9)}, Zero: []api.Region{{First: 127, Count: 2}}}, api.ErrImage)
	// What Check refuses comes ahead of a page that is there.
	r.s.Map(1, 1)
	r.lays("both", 0, ofZero(api.Region{First: 1, Count: 1}, api.Region{First: 1, Count: 1}), api.ErrImage)
	r.s.Unmap(1, 1, nil)
	if is := r.state(); !reflect.DeepEqual(is, was) {
		t.Error("something has changed")
	}
}

func TestLayIntoNoSpace(t *testing.T) {
	for _, x := range []api.Image{{}, ofSegments(seg(0, 9)), ofZero(api.Region{First: 1, Count: 1})} {
		for _, hart := range []int{0, -1, math.MaxInt} {
			if e := image.Lay(nil, hart, x); e != api.ErrArg {
				t.Error("Lay", e)
			}
		}
	}
	// Of a space that no call made nothing is promised but that nothing panics.
	image.Lay(&space.Space{}, 0, ofSegments(seg(0, 9)))
}

func TestLayWhereAPageIs(t *testing.T) {
	x := api.Image{Segments: []api.Segment{seg(10*256, 257), seg(4*256, 3)}, Zero: []api.Region{{First: 100, Count: 20}, {First: 30, Count: 1}}}
	for page := range api.Pages {
		r := rigged(t, 20)
		if e := r.s.Map(page, 1); e != api.OK {
			t.Fatal("Map", e)
		}
		if page%2 == 0 {
			r.s.Load(0, page, []byte("there"))
		}
		was := r.state()
		if page == 10 || page == 11 || page == 4 || page == 30 || page >= 100 && page < 120 {
			r.lays("a page that is there", 0, x, api.ErrRegion)
			if is := r.state(); !reflect.DeepEqual(is, was) {
				t.Error("something has changed", page)
			}
			continue
		}
		r.lays("pages beside it", 0, x, api.OK)
		if b, ok := r.s.Page(page); !ok || page%2 == 0 && string(b[:5]) != "there" {
			t.Error("page", page, b, ok)
		}
	}
}

// A second image goes beside the first one, not over it; and a page that was unmapped is free for one.
func TestLayTwice(t *testing.T) {
	r := rigged(t, 20)
	x := ofSegments(seg(0, 9))
	r.lays("the first time", 0, x, api.OK)
	r.lays("again", 0, x, api.ErrRegion)
	r.loaded(0, x.Segments[0].Bytes)
	r.lays("beside it", 0, ofSegments(seg(256, 4)), api.OK)
	c, _ := r.s.Unmap(0, 1, nil)
	r.s.Settle(0, c)
	r.lays("again", 0, ofSegments(api.Segment{Bytes: []byte("new")}), api.OK)
	r.loaded(0, []byte("new"))
	r.regions(api.Region{First: 0, Count: 2})
}

// What came till there was no frame stays; all pages belong to the space then.
func TestLayWithoutFrames(t *testing.T) {
	x := api.Image{Segments: []api.Segment{seg(70*256, 500), seg(10*256, 257), seg(80*256, 3)}, Zero: []api.Region{{First: 20, Count: 2}}}
	order := []int{70, 71, 10, 11, 80}
	parts := [][]byte{x.Segments[0].Bytes[:256], x.Segments[0].Bytes[256:], x.Segments[1].Bytes[:256], x.Segments[1].Bytes[256:], x.Segments[2].Bytes}
	// So many frames does the space have when each of them has come: leaves come with pages 70 and 10.
	needs := []int{3, 4, 6, 7, 8}
	for frames := 1; frames <= 9; frames++ {
		r := rigged(t, frames)
		came := 0
		for came < len(order) && needs[came] <= frames {
			came++
		}
		want := api.ErrFull
		if came == len(order) {
			want = api.OK
		}
		r.lays("without frames", 0, x, want)
		r.regions(api.Region{First: 10, Count: 2}, api.Region{First: 20, Count: 2}, api.Region{First: 70, Count: 2}, api.Region{First: 80, Count: 1})
		for i, page := range order {
			if i < came {
				r.loaded(page, parts[i])
			} else {
				r.empty(page)
			}
		}
		r.empty(20, 21)
		// A page and its leaf come both or not at all.
		if used := append([]int{1}, needs...)[came]; r.f.Used() != used || r.s.Frames() != used {
			t.Errorf("%d frames: %d are used, %d of the space, not %d", frames, r.f.Used(), r.s.Frames(), used)
		}
	}
}

// No hart, no frame for it; an image of zeros needs none.
func TestLayOfNoHart(t *testing.T) {
	for _, hart := range []int{-1, 2, math.MinInt, math.MaxInt} {
		r := rigged(t, 20)
		r.lays("zeros", hart, ofZero(api.Region{First: 0, Count: 2}), api.OK)
		r.lays("bytes", hart, ofSegments(seg(1024, 9)), api.ErrFull)
		r.regions(api.Region{First: 0, Count: 2}, api.Region{First: 4, Count: 1})
		r.empty(0, 1, 4)
		if r.f.Used() != 1 {
			t.Error("Used", r.f.Used())
		}
	}
}

func TestLayBehindFree(t *testing.T) {
	r := rigged(t, 20)
	r.s.Free(0)
	r.lays("behind Free", 0, ofSegments(seg(0, 9)), api.ErrFull)
	r.regions(api.Region{First: 0, Count: 1})
	if r.f.Used() != 0 {
		t.Error("Used", r.f.Used())
	}
}

// Behind it the Segments' bytes are the space's own.
func TestLaySharesNothing(t *testing.T) {
	r := rigged(t, 20)
	x := ofSegments(seg(0, 300))
	was := copied(x)
	r.lays("Lay", 0, x, api.OK)
	clear(x.Segments[0].Bytes)
	r.loaded(0, was.Segments[0].Bytes[:256])
	r.loaded(1, was.Segments[0].Bytes[256:])
	at, e := r.s.Touch(0, 3, true)
	if e != api.OK || r.m.Store8(at, 0x99) != api.OK || x.Segments[0].Bytes[3] != 0 {
		t.Error("a store into the space", e)
	}
}
