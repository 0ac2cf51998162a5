package space_test

import (
	"bytes"
	"math"
	"reflect"
	"slices"
	"testing"

	"parapet/api"
	"parapet/frame"
	"parapet/phys"
	"parapet/ptab"
	"parapet/space"
	"parapet/tlb"
)

const (
	first = 2 // the first frame that is given out
	w     = api.PteValid | api.PteWrite
	c     = api.PteValid | api.PteCow
)

// rig is a machine with a world on it.
type rig struct {
	*testing.T
	m *phys.Mem
	f *frame.Frames
	x *tlb.Tlb
	w *space.World
}

// make1 is a world of so many frames that are given out, on a memory none of whose bytes was 0.
func make1(t *testing.T, frames, harts int) *rig {
	t.Helper()
	m, e := phys.New(first + frames + 1)
	if e != api.OK {
		t.Fatal("phys.New", e)
	}
	m.Write(0, bytes.Repeat([]byte{0xa5}, m.Frames()*api.PageSize))
	f, e := frame.New(m, first, frames, harts)
	if e != api.OK {
		t.Fatal("frame.New", e)
	}
	x, e := tlb.New(harts, 8)
	if e != api.OK {
		t.Fatal("tlb.New", e)
	}
	world, e := space.NewWorld(m, f, x)
	if e != api.OK || world == nil {
		t.Fatal("NewWorld", e)
	}
	return &rig{t, m, f, x, world}
}

// made is a space to which some pages belong.
func (r *rig) made(pages ...api.Region) *space.Space {
	r.Helper()
	s, e := r.w.New(0)
	if e != api.OK || s == nil {
		r.Fatal("New", e)
	}
	for _, p := range pages {
		r.maps(s, p.First, p.Count)
	}
	return s
}

func (r *rig) maps(s *space.Space, first, count int) {
	r.Helper()
	if e := s.Map(first, count); e != api.OK {
		r.Fatal("Map", first, count, e)
	}
}

// loads gives a page its frame, and its first bytes.
func (r *rig) loads(s *space.Space, page int, b ...byte) {
	r.Helper()
	if e := s.Load(0, page, b); e != api.OK {
		r.Fatal("Load", page, e)
	}
}

// entry is what a space's table tells of a page.
func entry(s *space.Space, page int) uint32 {
	x, _ := s.Table().Get(page)
	return x
}

// has holds a page's flags, and that its frame is used so often; 0: there is no entry.
func (r *rig) has(s *space.Space, page, flags, count int) int {
	r.Helper()
	x := entry(s, page)
	if ptab.Flags(x) != flags || x != 0 && r.f.Count(ptab.Frame(x)) != count {
		r.Errorf("page %d of %d: %#x, its frame used %d times; not %d, %d", page, s.Id(), x, r.f.Count(ptab.Frame(x)), flags, count)
	}
	return ptab.Frame(x)
}

// faults holds what a fault is told that changes nothing later.
func (r *rig) faults(s *space.Space, hart int, addr uint32, write bool, want int) {
	r.Helper()
	if kind, change := s.Fault(hart, addr, write, []int{0, 1}); kind != want || change.Shoot != 0 || len(change.Frames) != 0 {
		r.Errorf("Fault(%d, %#x, %v): %d %v, not %d", hart, addr, write, kind, change, want)
	}
}

// touches holds that a touch is told an address.
func (r *rig) touches(s *space.Space, hart int, addr uint32, write bool, want int) {
	r.Helper()
	if at, e := s.Touch(hart, addr, write); at != want || e != api.OK {
		r.Errorf("Touch(%d, %#x, %v): %d %v, not %d", hart, addr, write, at, e, want)
	}
}

// misses holds that it is told a fault.
func (r *rig) misses(s *space.Space, hart int, addr uint32, write bool) {
	r.Helper()
	if at, e := s.Touch(hart, addr, write); at != 0 || e != api.ErrFault {
		r.Errorf("Touch(%d, %#x, %v): %d %v, not a fault", hart, addr, write, at, e)
	}
}

// forks is a fork, and its change.
func (r *rig) forks(s *space.Space, targets ...int) (*space.Space, api.Change) {
	r.Helper()
	f, change, e := s.Fork(0, targets)
	if e != api.OK || f == nil || len(change.Frames) != 0 {
		r.Fatal("Fork", e, change)
	}
	return f, change
}

// handles lets all harts handle what is pending.
func (r *rig) handles() {
	for hart := range r.x.Harts() {
		r.x.Handle(hart)
	}
}

// state is all that a machine and some spaces tell.
type state struct {
	bytes   string
	counts  []int
	lists   [api.MaxHarts][]int
	common  []int
	kept    [api.MaxHarts]map[api.Key]uint32
	pending [api.MaxHarts][]int
	spaces  []told
}

type told struct {
	id, holder, frames, root int
	regions                  []api.Region
}

func (r *rig) tell(spaces ...*space.Space) state {
	b, _ := r.m.Read(0, r.m.Frames()*api.PageSize)
	s := state{bytes: string(b), common: r.f.Common()}
	for n := range r.m.Frames() {
		s.counts = append(s.counts, r.f.Count(n))
	}
	for hart := range api.MaxHarts {
		s.lists[hart] = r.f.List(hart)
		s.pending[hart] = r.x.Pending(hart)
		s.kept[hart] = map[api.Key]uint32{}
		for _, k := range r.x.Kept(hart) {
			s.kept[hart][k], _ = r.x.Look(hart, k)
		}
	}
	for _, x := range spaces {
		s.spaces = append(s.spaces, told{x.Id(), x.Locked(), x.Frames(), x.Table().Root(), x.Regions()})
	}
	return s
}

// same holds that nothing has changed since it was told.
func (r *rig) same(what string, was state, spaces ...*space.Space) {
	r.Helper()
	if is := r.tell(spaces...); !reflect.DeepEqual(is, was) {
		r.Errorf("%s has changed something: %v, %v", what, is.spaces, was.spaces)
	}
}

// P13.1

func TestNewWorldOfNothing(t *testing.T) {
	r := make1(t, 4, 1)
	for _, x := range []struct {
		m *phys.Mem
		f *frame.Frames
		t *tlb.Tlb
	}{{nil, r.f, r.x}, {r.m, nil, r.x}, {r.m, r.f, nil}, {nil, nil, nil}} {
		if world, e := space.NewWorld(x.m, x.f, x.t); world != nil || e != api.ErrArg {
			t.Error("NewWorld", world, e)
		}
	}
}

func TestNew(t *testing.T) {
	r := make1(t, 4, 2)
	for id := 1; id <= 3; id++ {
		s, e := r.w.New(id % 2)
		if e != api.OK || s.Id() != id || len(s.Regions()) != 0 || s.Frames() != 1 || s.Locked() != 0 {
			t.Fatal("New", id, e)
		}
		root := s.Table().Root()
		if b, _ := r.m.Frame(root); r.f.Count(root) != 1 || !bytes.Equal(b, make([]byte, api.PageSize)) {
			t.Error("the root", root, r.f.Count(root))
		}
		for page := -1; page <= api.Pages; page++ {
			if s.Has(page) {
				t.Error("Has", page)
			}
		}
	}
	if r.f.Used() != 3 {
		t.Error("frames", r.f.Used())
	}
}

func TestNewRefuses(t *testing.T) {
	r := make1(t, 2, 2)
	was := r.tell()
	for _, hart := range []int{-1, 2, 8, math.MinInt, math.MaxInt} {
		if s, e := r.w.New(hart); s != nil || e != api.ErrArg {
			t.Error("New", hart, s, e)
		}
	}
	r.same("New of no hart", was)
	r.made()
	two := r.made()
	was = r.tell()
	if s, e := r.w.New(1); s != nil || e != api.ErrFull {
		t.Error("New without a frame", s, e)
	}
	r.same("New without a frame", was)
	if n := two.Free(0); n != 1 {
		t.Error("Free", n)
	}
	// Refusals take no ids, and the id of one that was freed is nobody's again.
	if s := r.made(); s.Id() != 3 {
		t.Error("Id", s.Id())
	}
}

// A world whose frames are another memory's, that is greater, takes none that its own has not.
func TestNewOfFramesThatAreNotThere(t *testing.T) {
	r := make1(t, 12, 1)
	small, _ := phys.New(first)
	world, e := space.NewWorld(small, r.f, r.x)
	if e != api.OK {
		t.Fatal("NewWorld", e)
	}
	if s, e := world.New(0); s != nil || e != api.ErrAddr || r.f.Used() != 0 {
		t.Error("New", s, e, r.f.Used())
	}
}

func TestWorldsCountByThemselves(t *testing.T) {
	r := make1(t, 8, 1)
	other, _ := space.NewWorld(r.m, r.f, r.x)
	r.made()
	if s, e := other.New(0); e != api.OK || s.Id() != 1 {
		t.Error("New", e, s.Id())
	}
}

// P13.2

func TestMapRefuses(t *testing.T) {
	r := make1(t, 4, 1)
	s := r.made(api.Region{First: 10, Count: 5}, api.Region{First: 255, Count: 1})
	was := r.tell(s)
	for _, x := range []struct {
		first, count int
		want         api.Errno
	}{
		{0, 0, api.ErrArg}, {0, -1, api.ErrArg}, {0, math.MinInt, api.ErrArg}, {-1, 1, api.ErrArg}, {-1, 2, api.ErrArg}, {math.MinInt, 1, api.ErrArg},
		{256, 1, api.ErrArg}, {0, 257, api.ErrArg}, {1, 256, api.ErrArg}, {200, 57, api.ErrArg}, {257, 1, api.ErrArg}, {256, 0, api.ErrArg},
		{math.MaxInt, 1, api.ErrArg}, {1, math.MaxInt, api.ErrArg}, {math.MaxInt, math.MaxInt, api.ErrArg}, {-1, 12, api.ErrArg}, {10, 250, api.ErrArg},
		{10, 1, api.ErrRegion}, {14, 1, api.ErrRegion}, {9, 2, api.ErrRegion}, {14, 2, api.ErrRegion}, {0, 256, api.ErrRegion}, {11, 2, api.ErrRegion},
		{15, 241, api.ErrRegion}, {255, 1, api.ErrRegion},
	} {
		if e := s.Map(x.first, x.count); e != x.want {
			t.Error("Map", x.first, x.count, e, x.want)
		}
		r.same("Map", was, s)
	}
}

func TestMapAndRegions(t *testing.T) {
	r := make1(t, 4, 1)
	s := r.made()
	for _, x := range []struct {
		first, count int
		want         []api.Region
	}{
		{5, 2, []api.Region{{First: 5, Count: 2}}},
		{0, 1, []api.Region{{First: 0, Count: 1}, {First: 5, Count: 2}}},
		{8, 1, []api.Region{{First: 0, Count: 1}, {First: 5, Count: 2}, {First: 8, Count: 1}}},
		{7, 1, []api.Region{{First: 0, Count: 1}, {First: 5, Count: 4}}},
		{255, 1, []api.Region{{First: 0, Count: 1}, {First: 5, Count: 4}, {First: 255, Count: 1}}},
		{9, 246, []api.Region{{First: 0, Count: 1}, {First: 5, Count: 251}}},
		{1, 4, []api.Region{{First: 0, Count: 256}}},
	} {
		r.maps(s, x.first, x.count)
		if l := s.Regions(); !slices.Equal(l, x.want) {
			t.Error("Regions", l, x.want)
		}
		for page := -2; page < api.Pages+2; page++ {
			want := slices.ContainsFunc(x.want, func(g api.Region) bool { return page >= g.First && page < g.First+g.Count })
			if s.Has(page) != want {
				t.Error("Has", page, !want)
			}
		}
	}
	if s.Has(math.MinInt) || s.Has(math.MaxInt) {
		t.Error("Has of no page")
	}
	if r.f.Used() != 1 || s.Frames() != 1 {
		t.Error("Map took a frame")
	}
	s.Regions()[0] = api.Region{}
	if l := s.Regions(); l[0].Count != 256 {
		t.Error("what Regions answers is the space's own", l)
	}
	whole := r.made()
	r.maps(whole, 0, 256)
}

func TestGap(t *testing.T) {
	r := make1(t, 4, 1)
	s := r.made(api.Region{First: 0, Count: 1}, api.Region{First: 4, Count: 2}, api.Region{First: 10, Count: 240}, api.Region{First: 255, Count: 1})
	for _, x := range []struct{ from, count, want int }{
		{0, 1, 1}, {0, 3, 1}, {0, 4, 6}, {0, 5, 250}, {0, 6, -1}, {1, 3, 1}, {2, 3, 6}, {2, 2, 2}, {3, 1, 3}, {3, 2, 6}, {4, 1, 6}, {7, 3, 7},
		{8, 3, 250}, {9, 1, 9}, {10, 1, 250}, {249, 5, 250}, {250, 5, 250}, {251, 4, 251}, {251, 5, -1}, {254, 1, 254}, {254, 2, -1}, {255, 1, -1},
		{-1, 1, -1}, {256, 1, -1}, {math.MinInt, 1, -1}, {math.MaxInt, 1, -1}, {0, 0, -1}, {0, -1, -1}, {0, 257, -1},
		{0, math.MinInt, -1}, {0, math.MaxInt, -1}, {250, math.MaxInt, -1},
	} {
		want, ok := max(x.want, 0), x.want >= 0
		if page, is := s.Gap(x.from, x.count); page != want || is != ok {
			t.Error("Gap", x.from, x.count, page, is, want, ok)
		}
	}
	empty := r.made()
	for _, x := range []struct {
		from, count int
		ok          bool
	}{{0, 256, true}, {0, 1, true}, {1, 255, true}, {1, 256, false}, {255, 1, true}, {255, 2, false}, {128, 128, true}, {128, 129, false}} {
		if page, ok := empty.Gap(x.from, x.count); ok != x.ok || ok && page != x.from || !ok && page != 0 {
			t.Error("Gap of an empty one", x.from, x.count, page, ok)
		}
	}
}

// P13.3

func TestTouch(t *testing.T) {
	r := make1(t, 12, 2)
	s := r.made(api.Region{First: 0, Count: 3}, api.Region{First: 255, Count: 1})
	r.misses(s, 0, 0, false)
	r.loads(s, 1, 7)
	r.loads(s, 255, 9)
	one, last := r.has(s, 1, w, 1)*256, r.has(s, 255, w, 1)*256
	r.touches(s, 0, 256, false, one)
	r.touches(s, 0, 256+255, true, one+255)
	r.touches(s, 1, 65535, true, last+255)
	for _, addr := range []uint32{0, 255, 512, 254 * 256, 65536, 65536 + 256, 1 << 31, 1<<24 + 256, math.MaxUint32} {
		r.misses(s, 0, addr, false)
		r.misses(s, 0, addr, true)
	}
	for _, hart := range []int{-1, 2, 7, math.MinInt, math.MaxInt} {
		r.misses(s, hart, 256, false)
	}
	k := []api.Key{{Space: s.Id(), Page: 1}}
	if !slices.Equal(r.x.Kept(0), k) || len(r.x.Kept(1)) != 1 {
		t.Error("Kept", r.x.Kept(0), r.x.Kept(1))
	}
}

func TestTouchByWhatIsKept(t *testing.T) {
	r := make1(t, 12, 2)
	s := r.made(api.Region{First: 0, Count: 3})
	k := api.Key{Space: s.Id(), Page: 1}
	r.x.Fill(0, k, ptab.Pack(9, w))
	r.touches(s, 0, 256+3, true, 9*256+3) // the table has nothing
	r.misses(s, 1, 256+3, false)
	r.loads(s, 1, 7)
	one := r.has(s, 1, w, 1) * 256
	r.touches(s, 0, 256+3, true, 9*256+3) // what is kept goes first
	r.touches(s, 1, 256+3, true, one+3)
	r.x.Fill(1, k, ptab.Pack(10, c))
	r.misses(s, 1, 256, true)
	r.touches(s, 1, 256, false, 10*256)
	if x, _ := r.x.Look(1, k); x != ptab.Pack(10, c) {
		t.Error("what is kept has changed", x)
	}
	other := r.made(api.Region{First: 1, Count: 1})
	r.misses(other, 0, 256, false)
}

func TestTouchKeepsWhatItFinds(t *testing.T) {
	r := make1(t, 12, 2)
	s := r.made(api.Region{First: 0, Count: 3})
	r.loads(s, 1, 7)
	r.forks(s)
	one := r.has(s, 1, c, 2) * 256
	k := api.Key{Space: s.Id(), Page: 1}
	r.misses(s, 0, 256, true)
	if x, ok := r.x.Look(0, k); !ok || x != entry(s, 1) {
		t.Error("an entry that can't be written is not kept", x, ok)
	}
	r.touches(s, 1, 256, false, one)
	if x, ok := r.x.Look(1, k); !ok || x != entry(s, 1) {
		t.Error("an entry is not kept", x, ok)
	}
	r.misses(s, 0, 0, true)
	if n := len(r.x.Kept(0)); n != 1 {
		t.Error("what is not there is kept", r.x.Kept(0))
	}
}

// P13.4

func TestFaultBad(t *testing.T) {
	r := make1(t, 12, 2)
	s := r.made(api.Region{First: 1, Count: 2})
	r.loads(s, 1, 7)
	r.touches(s, 0, 256, true, r.has(s, 1, w, 1)*256)
	was := r.tell(s)
	for _, addr := range []uint32{0, 255, 768, 65535, 65536, 65536 + 256, 1<<24 + 256, math.MaxUint32} {
		for _, write := range []bool{false, true} {
			for _, hart := range []int{0, 1, -1, 2} {
				r.faults(s, hart, addr, write, api.FaultBad)
			}
		}
	}
	r.same("FaultBad", was, s)
}

func TestFaultBringsZeros(t *testing.T) {
	r := make1(t, 12, 2)
	s := r.made(api.Region{First: 62, Count: 3})
	for i, x := range []struct {
		addr   uint32
		write  bool
		frames int
	}{{62 * 256, false, 3}, {63*256 + 255, true, 4}, {64*256 + 1, false, 6}} {
		page := int(x.addr / 256)
		r.x.Fill(1, api.Key{Space: s.Id(), Page: 3}, 0x901)
		r.faults(s, i%2, x.addr, x.write, api.FaultDone)
		n := r.has(s, page, w, 1)
		if b, _ := r.m.Frame(n); !bytes.Equal(b, make([]byte, 256)) {
			t.Error("no zeros", b)
		}
		if s.Frames() != x.frames || r.f.Used() != x.frames {
			t.Error("frames", s.Frames(), r.f.Used(), x.frames)
		}
		r.touches(s, 0, x.addr, true, n*256+int(x.addr%256))
		if kept := len(r.x.Kept(1)); kept != 1-i%2 {
			t.Error("what the hart itself keeps is forgotten, and no other's", i, r.x.Kept(1))
		}
	}
}

func TestFaultWithoutFrames(t *testing.T) {
	for free := range 3 {
		r := make1(t, 1+free, 2)
		s := r.made(api.Region{First: 0, Count: 3})
		r.x.Fill(1, api.Key{Space: s.Id(), Page: 2}, 0x901)
		was := r.tell(s)
		for _, hart := range []int{1, 0} {
			if free < 2 {
				r.faults(s, hart, 0, true, api.FaultNoMem)
				r.same("FaultNoMem", was, s)
			}
		}
		if free < 2 {
			continue
		}
		r.faults(s, 1, 0, true, api.FaultDone)
		was = r.tell(s)
		r.faults(s, 1, 256, false, api.FaultNoMem)
		r.same("FaultNoMem", was, s)
		r.faults(s, 1, 0, true, api.FaultDone)
	}
}

func TestFaultOfNoHart(t *testing.T) {
	r := make1(t, 12, 2)
	s := r.made(api.Region{First: 0, Count: 3})
	r.loads(s, 0, 1)
	f, _ := r.forks(s)
	was := r.tell(s, f)
	for _, hart := range []int{-1, 2, math.MinInt, math.MaxInt} {
		r.faults(s, hart, 256, false, api.FaultNoMem) // no frame is to be had for it
		r.faults(s, hart, 0, true, api.FaultNoMem)
		r.faults(s, hart, 0, false, api.FaultDone)
		r.same("a fault of no hart", was, s, f)
	}
}

func TestFaultAgain(t *testing.T) {
	r := make1(t, 12, 2)
	s := r.made(api.Region{First: 0, Count: 3})
	r.loads(s, 0, 1, 2)
	x := entry(s, 0)
	for _, write := range []bool{false, true} {
		r.x.Fill(0, api.Key{Space: s.Id(), Page: 0}, ptab.Pack(9, c))
		r.x.Fill(0, api.Key{Space: s.Id(), Page: 2}, ptab.Pack(9, c))
		r.x.Fill(0, api.Key{Space: s.Id() + 1, Page: 0}, ptab.Pack(9, c))
		r.x.Fill(1, api.Key{Space: s.Id(), Page: 0}, ptab.Pack(9, c))
		r.faults(s, 0, 3, write, api.FaultDone)
		if entry(s, 0) != x || r.f.Used() != 3 {
			t.Error("an entry that is there has changed", entry(s, 0), x)
		}
		if len(r.x.Kept(0)) != 1 || len(r.x.Kept(1)) != 1 {
			t.Error("Kept", r.x.Kept(0), r.x.Kept(1))
		}
	}
}

// An entry that neither can be written nor is to be copied stays so.
func TestFaultOfWhatCanNotBeWritten(t *testing.T) {
	r := make1(t, 12, 2)
	s := r.made(api.Region{First: 0, Count: 3})
	r.loads(s, 0, 1)
	n := r.has(s, 0, w, 1)
	for count := 1; count <= 2; count++ {
		s.Table().Set(0, ptab.Pack(n, api.PteValid), -1)
		r.faults(s, 0, 0, true, api.FaultDone)
		r.has(s, 0, api.PteValid, count)
		r.misses(s, 0, 0, true)
		r.f.Incr(n)
	}
}

func TestFaultParts(t *testing.T) {
	r := make1(t, 12, 2)
	s := r.made(api.Region{First: 0, Count: 3})
	r.loads(s, 0, 1, 2, 3)
	f, _ := r.forks(s)
	old := r.has(s, 0, c, 2)
	r.faults(s, 0, 0, false, api.FaultDone) // it reads: nothing is to be parted
	r.has(s, 0, c, 2)
	for hart := range 2 {
		r.x.Fill(hart, api.Key{Space: s.Id(), Page: 2}, 0x901)
		r.x.Fill(hart, api.Key{Space: f.Id(), Page: 2}, 0x901)
	}
	kind, change := s.Fault(1, 5, true, []int{0})
	if kind != api.FaultWait || !slices.Equal(change.Frames, []int{old}) || change.Shoot == 0 {
		t.Fatal("Fault", kind, change)
	}
	if !slices.Equal(r.x.Pending(0), []int{change.Shoot}) || len(r.x.Pending(1)) != 0 || r.x.Over(change.Shoot) {
		t.Error("Pending", r.x.Pending(0), r.x.Pending(1))
	}
	if len(r.x.Kept(0)) != 2 || !slices.Equal(r.x.Kept(1), []api.Key{{Space: f.Id(), Page: 2}}) {
		t.Error("Kept", r.x.Kept(0), r.x.Kept(1))
	}
	n := r.has(s, 0, c, 1)
	if b, _ := r.m.Frame(n); n == old || !bytes.Equal(b, append([]byte{1, 2, 3}, make([]byte, 253)...)) {
		t.Error("the copy", n, old, b[:5])
	}
	r.has(f, 0, c, 2) // once for f's entry, once for the change
	if s.Settle(1, change) {
		t.Error("Settle ahead of the shootdown's end")
	}
	r.has(f, 0, c, 2)
	r.x.Handle(0)
	if len(r.x.Kept(0)) != 1 {
		t.Error("the shootdown is of another space", r.x.Kept(0))
	}
	if !s.Settle(1, change) {
		t.Error("Settle")
	}
	r.has(f, 0, c, 1)
	r.misses(s, 0, 5, true)
	r.faults(s, 0, 5, true, api.FaultDone)
	r.has(s, 0, w, 1)
	r.touches(s, 0, 5, true, n*256+5)
	r.touches(s, 1, 5, true, n*256+5)
	// The other one is alone with the frame now.
	r.misses(f, 0, 5, true)
	r.faults(f, 0, 5, true, api.FaultDone)
	r.has(f, 0, w, 1)
	r.touches(f, 0, 5, true, old*256+5)
}

func TestFaultPartsWithoutFrames(t *testing.T) {
	r := make1(t, 5, 2)
	s := r.made(api.Region{First: 0, Count: 3})
	r.loads(s, 0, 1, 2, 3)
	f, _ := r.forks(s)
	was := r.tell(s, f)
	r.faults(s, 0, 0, true, api.FaultNoMem)
	r.faults(f, 1, 0, true, api.FaultNoMem)
	r.same("FaultNoMem", was, s, f)
	if n := r.x.Open(); n != 0 {
		t.Error("a shootdown was begun", n)
	}
	f.Free(1)
	r.faults(s, 0, 0, true, api.FaultDone) // it needs none
	r.has(s, 0, w, 1)
}

// Nobody is shot down where nobody is a target; the change has a number all the same.
func TestTargets(t *testing.T) {
	r := make1(t, 40, 3)
	for i, x := range []struct{ targets, want []int }{
		{nil, nil}, {[]int{2}, []int{2}}, {[]int{2, 0}, []int{0, 2}}, {[]int{0, 1, 2}, []int{0, 1, 2}},
		{[]int{1, 1}, []int{1}}, {[]int{-1, 1, 3, math.MaxInt, math.MinInt, 8}, []int{1}}, {[]int{3}, nil},
	} {
		s := r.made(api.Region{First: 0, Count: 3})
		r.loads(s, 0, 1)
		given := slices.Clone(x.targets)
		f, change, e := s.Fork(0, given)
		if e != api.OK {
			t.Fatal("Fork", e)
		}
		r.shot(change, x.want)
		kind, change := s.Fault(0, 0, true, given)
		if kind != api.FaultWait {
			t.Fatal("Fault", i, kind)
		}
		r.shot(change, x.want)
		change, e = f.Unmap(0, 2, given)
		if e != api.OK {
			t.Fatal("Unmap", e)
		}
		r.shot(change, x.want)
		if !slices.Equal(given, x.targets) {
			t.Error("the targets have changed", given, x.targets)
		}
		s.Free(0)
		f.Free(0)
	}
}

// shot holds at whom a change's shootdown is, and lets them handle it.
func (r *rig) shot(change api.Change, want []int) {
	r.Helper()
	var at []int
	for hart := range r.x.Harts() {
		if slices.Contains(r.x.Pending(hart), change.Shoot) {
			at = append(at, hart)
		}
	}
	if change.Shoot == 0 || !slices.Equal(at, want) || r.x.Over(change.Shoot) != (len(want) == 0) {
		r.Error("shot", change, at, want)
	}
	r.handles()
}
