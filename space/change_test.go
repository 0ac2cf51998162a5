package space_test

import (
	"bytes"
	"math"
	"slices"
	"testing"

	"parapet/api"
	"parapet/ptab"
	"parapet/space"
)

// P13.5

func TestUnmapRefuses(t *testing.T) {
	r := make1(t, 12, 2)
	s := r.made(api.Region{First: 0, Count: 256})
	r.loads(s, 0, 1)
	was := r.tell(s)
	for _, x := range [][2]int{
		{0, 0}, {0, -1}, {0, math.MinInt}, {-1, 1}, {-1, 2}, {math.MinInt, 1}, {256, 1}, {0, 257}, {1, 256}, {255, 2},
		{math.MaxInt, 1}, {1, math.MaxInt}, {math.MaxInt, math.MaxInt}, {256, 0},
	} {
		if change, e := s.Unmap(x[0], x[1], []int{0}); e != api.ErrArg || change.Shoot != 0 || len(change.Frames) != 0 {
			t.Error("Unmap", x, change, e)
		}
	}
	r.same("Unmap", was, s)
}

func TestUnmap(t *testing.T) {
	r := make1(t, 30, 2)
	s := r.made(api.Region{First: 10, Count: 5}, api.Region{First: 60, Count: 8}, api.Region{First: 255, Count: 1})
	for _, page := range []int{65, 12, 60, 14, 255} {
		r.loads(s, page, byte(page))
	}
	f12, f14, f60, f65 := r.has(s, 12, w, 1), r.has(s, 14, w, 1), r.has(s, 60, w, 1), r.has(s, 65, w, 1)
	used := r.f.Used()
	r.touches(s, 1, 60*256, true, f60*256)
	change, e := s.Unmap(12, 55, []int{1})
	if e != api.OK || change.Shoot == 0 || !slices.Equal(change.Frames, []int{f12, f14, f60, f65}) {
		t.Fatal("Unmap", change, e)
	}
	want := []api.Region{{First: 10, Count: 2}, {First: 67, Count: 1}, {First: 255, Count: 1}}
	if l := s.Regions(); !slices.Equal(l, want) {
		t.Error("Regions", l)
	}
	for _, page := range []int{12, 14, 60, 65} {
		r.has(s, page, 0, 0)
		r.faults(s, 0, uint32(page*256), false, api.FaultBad)
	}
	r.has(s, 255, w, 1)
	// Up to its interrupt a hart reads what it keeps; nobody else is given the frames.
	r.touches(s, 1, 60*256, true, f60*256)
	r.misses(s, 0, 60*256, false)
	if s.Settle(0, change) || r.f.Used() != used || r.f.Count(f60) != 1 {
		t.Error("the frames are let go too early", r.f.Used(), used)
	}
	if x, _ := r.m.Load8(f60 * 256); x != 60 {
		t.Error("the frame's byte", x)
	}
	r.x.Handle(1)
	r.misses(s, 1, 60*256, false)
	if !s.Settle(0, change) || r.f.Used() != used-4 || r.f.Count(f60) != 0 {
		t.Error("Settle", r.f.Used(), used)
	}
	// The pages may belong to it anew, zeros.
	r.maps(s, 12, 55)
	if b, ok := s.Page(60); !ok || !bytes.Equal(b, make([]byte, 256)) {
		t.Error("Page", ok)
	}
}

func TestUnmapOfNothing(t *testing.T) {
	r := make1(t, 12, 2)
	s := r.made(api.Region{First: 10, Count: 5}, api.Region{First: 100, Count: 5})
	r.loads(s, 101, 1)
	was := r.tell(s)
	for _, x := range [][2]int{{0, 10}, {15, 85}, {105, 151}, {0, 1}} {
		if change, e := s.Unmap(x[0], x[1], []int{0, 1}); e != api.OK || change.Shoot != 0 || len(change.Frames) != 0 {
			t.Error("Unmap", x, change, e)
		}
		r.same("Unmap of what does not belong to it", was, s)
	}
	for _, x := range [][2]int{{10, 5}, {100, 1}, {102, 10}} {
		if change, e := s.Unmap(x[0], x[1], []int{0, 1}); e != api.OK || change.Shoot != 0 || len(change.Frames) != 0 || r.x.Open() != 0 {
			t.Error("Unmap without entries", x, change, e)
		}
	}
	if l := s.Regions(); !slices.Equal(l, []api.Region{{First: 101, Count: 1}}) {
		t.Error("Regions", l)
	}
	change, e := s.Unmap(0, 256, nil)
	if e != api.OK || change.Shoot == 0 || len(change.Frames) != 1 || len(s.Regions()) != 0 || !s.Settle(1, change) {
		t.Error("Unmap of all", change, e)
	}
	// The leaf stays.
	if s.Frames() != 2 || r.f.Used() != 2 {
		t.Error("Frames", s.Frames(), r.f.Used())
	}
}

func TestUnmapOfWhatIsShared(t *testing.T) {
	r := make1(t, 12, 2)
	s := r.made(api.Region{First: 0, Count: 2})
	r.loads(s, 0, 1)
	f, _ := r.forks(s)
	n := r.has(f, 0, c, 2)
	change, e := s.Unmap(0, 2, nil)
	if e != api.OK || !slices.Equal(change.Frames, []int{n}) {
		t.Error("Unmap", change, e)
	}
	r.has(f, 0, c, 2)
	if !s.Settle(0, change) {
		t.Error("Settle")
	}
	r.has(f, 0, c, 1)
	if b, ok := f.Page(0); !ok || b[0] != 1 {
		t.Error("the other one's page", b, ok)
	}
}

// P13.6

func TestFork(t *testing.T) {
	r := make1(t, 30, 2)
	s := r.made(api.Region{First: 0, Count: 3}, api.Region{First: 64, Count: 2}, api.Region{First: 255, Count: 1})
	for _, page := range []int{0, 2, 64, 255} {
		r.loads(s, page, byte(page+1))
	}
	s.Lock(5)
	used := r.f.Used()
	f, change := r.forks(s, 1)
	if f.Id() != 2 || f.Locked() != 0 || !slices.Equal(f.Regions(), s.Regions()) || f.Frames() != s.Frames() {
		t.Error("Fork", f.Id(), f.Locked(), f.Regions(), f.Frames())
	}
	if r.f.Used() != used+4 || f.Table().Root() == s.Table().Root() { // a root and three leaves
		t.Error("frames", r.f.Used(), used)
	}
	for page := range api.Pages {
		flags, count := 0, 0
		if slices.Contains([]int{0, 2, 64, 255}, page) {
			flags, count = c, 2
		}
		if r.has(s, page, flags, count) != r.has(f, page, flags, count) {
			t.Error("the entry of page", page)
		}
	}
	for _, l := range [][]int{s.Table().Leaves(), f.Table().Leaves()} {
		for _, n := range append(l, s.Table().Root(), f.Table().Root()) {
			if r.f.Count(n) != 1 {
				t.Error("a leaf or a root is used", r.f.Count(n))
			}
		}
	}
	if change.Shoot == 0 || !slices.Equal(r.x.Pending(1), []int{change.Shoot}) || len(r.x.Pending(0)) != 0 {
		t.Error("the shootdown", change, r.x.Pending(1))
	}
	r.x.Fill(1, api.Key{Space: s.Id(), Page: 1}, 0x903)
	r.x.Fill(1, api.Key{Space: f.Id(), Page: 1}, 0x903)
	r.x.Handle(1)
	if !slices.Equal(r.x.Kept(1), []api.Key{{Space: f.Id(), Page: 1}}) {
		t.Error("the shootdown is of the old space", r.x.Kept(1))
	}
}

func TestForkTurnsWhatCanBeWritten(t *testing.T) {
	r := make1(t, 30, 2)
	s := r.made(api.Region{First: 0, Count: 3})
	f, change := r.forks(s, 0, 1)
	if change.Shoot != 0 || r.x.Open() != 0 || len(f.Regions()) != 1 || f.Frames() != 1 {
		t.Error("a fork without entries", change, f.Frames())
	}
	r.loads(s, 0, 1)
	if _, change := r.forks(s, 0, 1); change.Shoot == 0 {
		t.Error("a fork with an entry", change)
	}
	r.handles()
	// All are turned already.
	if _, change := r.forks(s, 0, 1); change.Shoot != 0 || r.x.Open() != 0 {
		t.Error("a fork anew", change)
	}
	n := r.has(s, 0, c, 3)
	// An entry that is neither stays as it is, and turns nothing.
	s.Table().Set(0, ptab.Pack(n, api.PteValid), -1)
	g, change := r.forks(s, 0)
	if change.Shoot != 0 || r.x.Open() != 0 {
		t.Error("a fork of what can't be written", change)
	}
	r.has(s, 0, api.PteValid, 4)
	r.has(g, 0, api.PteValid, 4)
	r.loads(s, 1, 1)
	g, change = r.forks(s, 0)
	if change.Shoot == 0 {
		t.Error("a fork with one that can be written")
	}
	r.has(g, 0, api.PteValid, 5)
	r.has(g, 1, c, 2)
	r.has(s, 1, c, 2)
}

func TestForkWithoutFrames(t *testing.T) {
	for free := range 6 {
		r := make1(t, 6+free, 2)
		s := r.made(api.Region{First: 0, Count: 2}, api.Region{First: 64, Count: 1})
		r.loads(s, 0, 1)
		r.loads(s, 1, 2)
		r.loads(s, 64, 3)
		r.touches(s, 0, 0, true, r.has(s, 0, w, 1)*256)
		was := r.tell(s)
		if free < 3 { // a root, two leaves
			for _, hart := range []int{1, 0} {
				if f, change, e := s.Fork(hart, []int{0}); f != nil || e != api.ErrFull || change.Shoot != 0 || len(change.Frames) != 0 {
					t.Error("Fork", free, f, change, e)
				}
				r.same("Fork without frames", was, s)
			}
			continue
		}
		f, _, e := s.Fork(1, []int{0})
		if e != api.OK || f.Id() != 2 || r.f.Free() != free-3 {
			t.Error("Fork", free, e, r.f.Free())
		}
	}
}

func TestForkOfNoHart(t *testing.T) {
	r := make1(t, 12, 2)
	s := r.made(api.Region{First: 0, Count: 2})
	r.loads(s, 0, 1)
	was := r.tell(s)
	for _, hart := range []int{-1, 2, math.MinInt, math.MaxInt} {
		if f, change, e := s.Fork(hart, []int{0}); f != nil || e != api.ErrFull || change.Shoot != 0 || len(change.Frames) != 0 {
			t.Error("Fork", hart, f, change, e)
		}
	}
	r.same("Fork of no hart", was, s)
	if f, _ := r.forks(s); f.Id() != 2 {
		t.Error("refusals took an id", f.Id())
	}
}

// A leaf whose pages have no entry any more is not wanted in the other one.
func TestForkBehindUnmap(t *testing.T) {
	r := make1(t, 12, 2)
	s := r.made(api.Region{First: 0, Count: 2}, api.Region{First: 64, Count: 1}, api.Region{First: 128, Count: 1})
	r.loads(s, 0, 1)
	r.loads(s, 64, 1)
	r.loads(s, 128, 1)
	change, _ := s.Unmap(64, 1, nil)
	s.Settle(0, change)
	f, _ := r.forks(s)
	if s.Frames() != 6 || f.Frames() != 5 || len(f.Table().Leaves()) != 2 || !slices.Equal(f.Regions(), s.Regions()) {
		t.Error("Fork", s.Frames(), f.Frames(), f.Table().Leaves(), f.Regions())
	}
}

func TestForkOfFramesUsedTooOften(t *testing.T) {
	r := make1(t, 12, 2)
	s := r.made(api.Region{First: 0, Count: 3})
	r.loads(s, 0, 1)
	r.loads(s, 1, 1)
	n := r.has(s, 1, w, 1)
	for r.f.Incr(n) == api.OK {
	}
	was := r.tell(s)
	if f, change, e := s.Fork(0, nil); f != nil || e != api.ErrFull || change.Shoot != 0 {
		t.Error("Fork", f, change, e)
	}
	r.same("Fork of a frame that can't be used once more", was, s)
	r.f.Decr(0, n)
	r.forks(s)
	r.has(s, 1, c, 1<<20)
}

// P13.7

func TestSettle(t *testing.T) {
	r := make1(t, 12, 2)
	s := r.made(api.Region{First: 0, Count: 3})
	if !s.Settle(0, api.Change{}) {
		t.Error("Settle of nothing")
	}
	was := r.tell(s)
	for _, shoot := range []int{1, -1, 2, math.MinInt, math.MaxInt} {
		if s.Settle(0, api.Change{Shoot: shoot, Frames: []int{s.Table().Root()}}) {
			t.Error("Settle of a shootdown that none has begun", shoot)
		}
	}
	r.same("Settle", was, s)
	r.loads(s, 0, 1)
	r.loads(s, 2, 1)
	change, _ := s.Unmap(0, 3, []int{0, 1})
	given := slices.Clone(change.Frames)
	for hart := range 2 {
		was := r.tell(s)
		if s.Settle(1, change) {
			t.Error("Settle ahead of hart", hart)
		}
		r.same("Settle", was, s)
		r.x.Handle(hart)
	}
	was = r.tell(s)
	for _, hart := range []int{-1, 2, math.MinInt, math.MaxInt} {
		if s.Settle(hart, change) {
			t.Error("Settle of no hart", hart)
		}
		r.same("Settle of no hart", was, s)
	}
	if l := len(r.f.List(1)); !s.Settle(1, change) || len(r.f.List(1)) != l+2 || r.f.Used() != 2 {
		t.Error("Settle", r.f.Used())
	}
	if !slices.Equal(change.Frames, given) {
		t.Error("the change has changed", change.Frames, given)
	}
}

// A change is settled through its space also when that was freed meanwhile.
func TestSettleBehindFree(t *testing.T) {
	r := make1(t, 12, 2)
	s := r.made(api.Region{First: 0, Count: 3})
	r.loads(s, 0, 1)
	r.loads(s, 1, 1)
	change, _ := s.Unmap(0, 1, []int{1})
	if n := s.Free(0); n != 3 || r.f.Used() != 1 {
		t.Error("Free", n, r.f.Used())
	}
	if s.Settle(0, change) || r.f.Used() != 1 {
		t.Error("Settle ahead of the shootdown's end")
	}
	r.x.Handle(1)
	if !s.Settle(0, change) || r.f.Used() != 0 || !r.f.Right() {
		t.Error("Settle", r.f.Used())
	}
}

func TestLock(t *testing.T) {
	r := make1(t, 12, 2)
	s, other := r.made(), r.made()
	if s.Locked() != 0 {
		t.Error("Locked", s.Locked())
	}
	for _, who := range []int{0, -1, math.MinInt} {
		if s.Lock(who) || s.Locked() != 0 || s.Unlock(who) != api.ErrLocked {
			t.Error("Lock of nobody", who)
		}
	}
	if s.Unlock(1) != api.ErrLocked {
		t.Error("Unlock of what nobody holds")
	}
	for _, who := range []int{1, 7, math.MaxInt} {
		if !s.Lock(who) || s.Locked() != who || !s.Lock(who) || s.Locked() != who {
			t.Error("Lock", who, s.Locked())
		}
		for _, else1 := range []int{2, 8, 0, -1, -who} {
			if s.Lock(else1) || s.Locked() != who || s.Unlock(else1) != api.ErrLocked || s.Locked() != who {
				t.Error("Lock of somebody else", else1, s.Locked())
			}
		}
		if other.Locked() != 0 {
			t.Error("the other one is held")
		}
		if s.Unlock(who) != api.OK || s.Locked() != 0 || s.Unlock(who) != api.ErrLocked {
			t.Error("Unlock", who, s.Locked())
		}
	}
}

// P13.8

func TestLoadRefuses(t *testing.T) {
	r := make1(t, 4, 2)
	s := r.made(api.Region{First: 0, Count: 3}, api.Region{First: 64, Count: 1})
	r.loads(s, 0, 1)
	was := r.tell(s)
	long := make([]byte, 257)
	for _, x := range []struct {
		page int
		b    []byte
		want api.Errno
	}{
		{1, long, api.ErrArg}, {-1, nil, api.ErrArg}, {256, nil, api.ErrArg}, {math.MinInt, nil, api.ErrArg}, {math.MaxInt, nil, api.ErrArg},
		{3, long, api.ErrArg}, {0, long, api.ErrArg}, {3, nil, api.ErrRegion}, {65, nil, api.ErrRegion}, {255, long[:256], api.ErrRegion},
		{0, nil, api.ErrBusy}, {0, long[:256], api.ErrBusy}, {64, nil, api.ErrFull},
	} {
		for _, hart := range []int{1, 0} {
			if e := s.Load(hart, x.page, x.b); e != x.want {
				t.Error("Load", x.page, len(x.b), e, x.want)
			}
			r.same("Load", was, s)
		}
	}
	for _, hart := range []int{-1, 2, math.MinInt, math.MaxInt} {
		if e := s.Load(hart, 1, nil); e != api.ErrFull { // there is no frame for it
			t.Error("Load of no hart", hart, e)
		}
	}
	r.same("Load", was, s)
	r.loads(s, 1, 1)
	was = r.tell(s)
	if e := s.Load(0, 2, nil); e != api.ErrFull {
		t.Error("Load without a frame", e)
	}
	if e := s.Load(0, 1, nil); e != api.ErrBusy {
		t.Error("Load anew without a frame", e)
	}
	r.same("Load", was, s)
}

func TestLoadAndPage(t *testing.T) {
	r := make1(t, 12, 2)
	s := r.made(api.Region{First: 0, Count: 4}, api.Region{First: 255, Count: 1})
	whole := make([]byte, 256)
	for i := range whole {
		whole[i] = byte(255 - i)
	}
	for page, b := range map[int][]byte{0: nil, 1: {7}, 2: whole[:255], 255: whole} {
		given := bytes.Clone(b)
		if e := s.Load(1, page, given); e != api.OK {
			t.Fatal("Load", page, e)
		}
		want := append(bytes.Clone(b), make([]byte, 256-len(b))...)
		got, ok := s.Page(page)
		if !ok || !bytes.Equal(got, want) || !bytes.Equal(given, b) {
			t.Error("Page", page, ok, got)
		}
		clear(given)
		got[0]++
		if got, ok := s.Page(page); !ok || !bytes.Equal(got, want) {
			t.Error("what is given or answered is the page's own", page)
		}
		r.has(s, page, w, 1)
	}
	if b, ok := s.Page(3); !ok || !bytes.Equal(b, make([]byte, 256)) {
		t.Error("a page without an entry", b, ok)
	}
	for _, page := range []int{-1, 4, 254, 256, math.MinInt, math.MaxInt} {
		if b, ok := s.Page(page); len(b) != 0 || ok {
			t.Error("Page of what does not belong to it", page, b)
		}
	}
	if s.Frames() != 7 || r.f.Used() != 7 {
		t.Error("Frames", s.Frames(), r.f.Used())
	}
}

func TestFree(t *testing.T) {
	r := make1(t, 20, 2)
	s := r.made(api.Region{First: 0, Count: 3}, api.Region{First: 64, Count: 2})
	for _, page := range []int{0, 1, 64} {
		r.loads(s, page, 1)
	}
	f, _ := r.forks(s)
	kind, change := f.Fault(0, 0, true, nil)
	if kind != api.FaultWait || !f.Settle(0, change) || f.Frames() != 6 || r.f.Used() != 10 {
		t.Fatal("Fault", kind, f.Frames(), r.f.Used())
	}
	was := r.tell(s, f)
	for _, hart := range []int{-1, 2, math.MinInt, math.MaxInt} {
		if n := f.Free(hart); n != 0 {
			t.Error("Free of no hart", n)
		}
	}
	r.same("Free of no hart", was, s, f)
	// Its copy of page 0, two leaves, the root; the others are s's, too.
	if n, l := f.Free(1), len(r.f.List(1)); n != 4 || l < 4 || r.f.Used() != 6 {
		t.Error("Free", n, l, r.f.Used())
	}
	r.empty(f)
	for _, page := range []int{0, 1, 64} {
		r.has(s, page, c, 1)
		if b, ok := s.Page(page); !ok || b[0] != 1 {
			t.Error("the other one's page", page, b, ok)
		}
	}
	if n := s.Free(0); n != 6 || r.f.Used() != 0 || !r.f.Right() {
		t.Error("Free", n, r.f.Used())
	}
	r.empty(s)
}

// empty holds what a space tells when it has been freed.
func (r *rig) empty(s *space.Space) {
	r.Helper()
	if s.Table() != nil || s.Frames() != 0 || len(s.Regions()) != 0 || s.Has(0) || s.Id() == 0 {
		r.Error("behind Free", s.Table(), s.Frames(), s.Regions())
	}
	if b, ok := s.Page(0); len(b) != 0 || ok {
		r.Error("Page", b, ok)
	}
	was := r.tell(s)
	r.misses(s, 0, 0, false)
	r.faults(s, 0, 0, true, api.FaultBad)
	if e := s.Load(0, 0, nil); e != api.ErrRegion {
		r.Error("Load", e)
	}
	if change, e := s.Unmap(0, 256, []int{0}); e != api.OK || change.Shoot != 0 || len(change.Frames) != 0 {
		r.Error("Unmap", change, e)
	}
	if page, ok := s.Gap(0, 256); page != 0 || !ok {
		r.Error("Gap", page, ok)
	}
	if n := s.Free(0); n != 0 {
		r.Error("Free anew", n)
	}
	r.same("what was freed", was, s)
}

// What was freed has no table, so what belongs to it anew has no frames.
func TestMapBehindFree(t *testing.T) {
	r := make1(t, 20, 2)
	s := r.made(api.Region{First: 0, Count: 3})
	s.Free(0)
	r.maps(s, 1, 2)
	if b, ok := s.Page(1); !ok || !bytes.Equal(b, make([]byte, 256)) {
		t.Error("Page", ok)
	}
	r.faults(s, 0, 256, false, api.FaultNoMem)
	if e := s.Load(0, 1, nil); e != api.ErrFull || r.f.Used() != 0 {
		t.Error("Load", e)
	}
	f, change := r.forks(s, 0)
	if change.Shoot != 0 || !slices.Equal(f.Regions(), []api.Region{{First: 1, Count: 2}}) || f.Frames() != 1 {
		t.Error("Fork", change, f.Regions(), f.Frames())
	}
	r.faults(f, 0, 256, false, api.FaultDone)
}

func TestOfNoSpace(t *testing.T) {
	for _, s := range []*space.Space{nil, {}} {
		if s.Id() != 0 || s.Map(0, 1) != api.ErrClosed || s.Has(0) || len(s.Regions()) != 0 || s.Locked() != 0 || s.Lock(1) || s.Unlock(1) != api.ErrClosed || s.Unlock(0) != api.ErrClosed {
			t.Error("of no space: Id to Unlock")
		}
		if page, ok := s.Gap(0, 1); page != 0 || ok {
			t.Error("Gap", page, ok)
		}
		if at, e := s.Touch(0, 0, false); at != 0 || e != api.ErrClosed {
			t.Error("Touch", at, e)
		}
		if kind, change := s.Fault(0, 0, false, nil); kind != api.FaultBad || change.Shoot != 0 || len(change.Frames) != 0 {
			t.Error("Fault", kind, change)
		}
		if change, e := s.Unmap(0, 1, nil); e != api.ErrClosed || change.Shoot != 0 || len(change.Frames) != 0 {
			t.Error("Unmap", change, e)
		}
		if f, change, e := s.Fork(0, nil); f != nil || e != api.ErrClosed || change.Shoot != 0 || len(change.Frames) != 0 {
			t.Error("Fork", f, change, e)
		}
		if s.Settle(0, api.Change{}) || s.Load(0, 0, nil) != api.ErrClosed || s.Free(0) != 0 || s.Frames() != 0 || s.Table() != nil {
			t.Error("of no space: Settle to Table")
		}
		if b, ok := s.Page(0); len(b) != 0 || ok {
			t.Error("Page", b, ok)
		}
	}
	var none *space.World
	if s, e := none.New(0); s != nil || e != api.ErrClosed {
		t.Error("New", s, e)
	}
}

// The chapter's example.
func TestExample(t *testing.T) {
	r := make1(t, 12, 2)
	s := r.made(api.Region{First: 0, Count: 2})
	r.misses(s, 0, 5, true)
	r.faults(s, 0, 5, true, api.FaultDone)
	r.touches(s, 0, 5, true, r.has(s, 0, w, 1)*256+5)
	_, change := r.forks(s, 0)
	r.touches(s, 0, 5, true, r.has(s, 0, c, 2)*256+5) // ahead of its interrupt
	r.x.Handle(0)
	if !s.Settle(0, change) {
		t.Error("Settle")
	}
	r.misses(s, 0, 5, true)
	if kind, change := s.Fault(0, 5, true, []int{0}); kind != api.FaultWait || len(change.Frames) != 1 {
		t.Error("Fault", kind, change)
	}
}
