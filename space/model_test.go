package space_test

import (
	"bytes"
	"slices"
	"testing"

	"parapet/api"
	"parapet/ptab"
	"parapet/space"
)

// page is the bytes of a page of the model, which has neither frames nor translations.
type page [api.PageSize]byte

// proc is a space, and the pages that the model has of it. As a kernel does, nobody changes it as long as a change of it is not settled.
type proc struct {
	s       *space.Space
	pages   map[int]page
	waits   bool
	change  api.Change
	gone    map[int]bool // the pages that the change unmaps
	child   *space.Space // that the change parts from it
	claimed []api.Region // of the child
}

// play is a machine on which things happen by chance.
type play struct {
	*rig
	dice  dice
	procs []*proc
	ids   map[int]bool
	done  map[string]int
}

// dice are numbers that are the same in each run.
type dice uint64

func (d *dice) below(n int) int {
	*d = *d*6364136223846793005 + 1442695040888963407
	return int(uint64(*d)>>33) % n
}

func (p *play) hart() int { return p.dice.below(p.x.Harts()) }

// page is one of few pages, of several leaves.
func (p *play) page() int {
	return []int{0, 1, 62, 63, 64, 65, 128, 254, 255}[p.dice.below(9)]
}

// targets is the harts that keep anything of a space, and by chance others.
func (p *play) targets(s *space.Space) []int {
	var l []int
	for hart := range p.x.Harts() {
		keeps := slices.ContainsFunc(p.x.Kept(hart), func(k api.Key) bool { return k.Space == s.Id() })
		if keeps || p.dice.below(4) == 0 {
			l = append(l, hart)
		}
	}
	return l
}

func (p *play) born() {
	if len(p.procs) == 5 {
		return
	}
	s, e := p.w.New(p.hart())
	if e == api.ErrFull && p.f.Free() == 0 {
		return
	}
	if e != api.OK {
		p.Fatal("New", e)
	}
	p.add(s, map[int]page{})
}

func (p *play) add(s *space.Space, pages map[int]page) {
	if s.Id() < 1 || p.ids[s.Id()] {
		p.Fatal("an id that another one had", s.Id())
	}
	p.ids[s.Id()] = true
	p.procs = append(p.procs, &proc{s: s, pages: pages})
}

func (p *play) mapSome(x *proc) {
	first, count := p.page(), 1+p.dice.below(3)
	want := api.OK
	if first+count > api.Pages {
		want = api.ErrArg
	} else {
		for n := first; n < first+count; n++ {
			if _, ok := x.pages[n]; ok {
				want = api.ErrRegion
			}
		}
	}
	if e := x.s.Map(first, count); e != want {
		p.Fatal("Map", first, count, e, want)
	}
	for n := first; want == api.OK && n < first+count; n++ {
		x.pages[n] = page{}
	}
}

func (p *play) load(x *proc) {
	n, b := p.page(), bytes.Repeat([]byte{byte(p.dice.below(256))}, p.dice.below(257))
	has := slices.Contains(slices.Collect(keys(x)), n)
	there := entry(x.s, n) != 0
	e := x.s.Load(p.hart(), n, b)
	switch {
	case !has && e == api.ErrRegion, has && there && e == api.ErrBusy, has && !there && e == api.ErrFull && p.f.Free() < 2:
	case has && !there && e == api.OK:
		var bytes page
		copy(bytes[:], b)
		x.pages[n] = bytes
	default:
		p.Fatal("Load", n, has, there, e)
	}
}

// keys goes over the pages that the model has.
func keys(x *proc) func(func(int) bool) {
	return func(yield func(int) bool) {
		for n := range x.pages {
			if !yield(n) {
				return
			}
		}
	}
}

func (p *play) unmap(x *proc) {
	first, count := p.page(), 1+p.dice.below(70)
	if first+count > api.Pages {
		return
	}
	change, e := x.s.Unmap(first, count, p.targets(x.s))
	if e != api.OK || (change.Shoot == 0) != (len(change.Frames) == 0) {
		p.Fatal("Unmap", first, count, change, e)
	}
	x.waits, x.change, x.gone = true, change, map[int]bool{}
	for n := first; n < first+count; n++ {
		delete(x.pages, n)
		x.gone[n] = true
	}
}

func (p *play) fork(x *proc) {
	if len(p.procs) == 5 {
		return
	}
	f, change, e := x.s.Fork(p.hart(), p.targets(x.s))
	if e == api.ErrFull && p.f.Free() < 4 {
		return
	}
	if e != api.OK || len(change.Frames) != 0 {
		p.Fatal("Fork", change, e)
	}
	x.waits, x.change, x.child, x.claimed = true, change, f, f.Regions()
}

func (p *play) settle(x *proc) {
	over := x.change.Shoot == 0 || p.x.Over(x.change.Shoot)
	if ok := x.s.Settle(p.hart(), x.change); ok != over {
		p.Fatal("Settle", x.change, ok, over)
	} else if !ok {
		return
	}
	p.done["settled"]++
	child := x.child
	x.waits, x.change, x.gone, x.child = false, api.Change{}, nil, nil
	if child == nil {
		return
	}
	// Up to here a hart may have written what it kept: then the child sees it, too.
	pages := map[int]page{}
	for n, b := range x.pages {
		pages[n] = b
	}
	p.add(child, pages)
}

func (p *play) free(i int) {
	x := p.procs[i]
	before := p.f.Used()
	if n := x.s.Free(p.hart()); n != before-p.f.Used() || n < 1 {
		p.Fatal("Free", n, before, p.f.Used())
	}
	p.procs = slices.Delete(p.procs, i, i+1)
}

// access reads or writes a byte as a hart does, with the faults that it takes.
func (p *play) access(x *proc) {
	hart, n, at, write := p.hart(), p.page(), p.dice.below(4), p.dice.below(2) == 0
	if l := slices.Sorted(keys(x)); len(l) > 0 && p.dice.below(8) > 0 {
		n = l[p.dice.below(len(l))]
	}
	addr := uint32(n*api.PageSize + at)
	for tries := 0; ; tries++ {
		where, e := x.s.Touch(hart, addr, write)
		if e == api.OK {
			p.reach(x, n, at, where, write)
			return
		}
		if e != api.ErrFault || where != 0 || tries == 3 {
			p.Fatal("Touch", hart, addr, write, where, e, tries)
		}
		if x.waits || !p.fault(x, hart, n, addr, write) {
			return
		}
	}
}

// reach holds a byte that a touch reached against the model's, or writes it.
func (p *play) reach(x *proc, n, at, where int, write bool) {
	b, ok := x.pages[n]
	if !ok && !x.gone[n] {
		p.Fatal("a touch of what does not belong to it", n)
	}
	if write {
		value := byte(p.dice.below(256))
		p.m.Store8(where, value)
		p.done["written"]++
		if ok {
			b[at] = value
			x.pages[n] = b
		}
		return
	}
	if got, _ := p.m.Load8(where); ok && got != b[at] {
		p.Fatal("a touch reads", got, "not", b[at])
	}
}

// fault takes a fault, and tells whether the touch is to be tried again.
func (p *play) fault(x *proc, hart, n int, addr uint32, write bool) bool {
	_, has := x.pages[n]
	kind, change := x.s.Fault(hart, addr, write, p.targets(x.s))
	p.done[[]string{"", "done", "bad", "nomem", "wait"}[kind]]++
	if (kind == api.FaultBad) == has {
		p.Fatal("Fault", kind, has)
	}
	if kind == api.FaultNoMem && p.f.Free() > 1 {
		p.Fatal("FaultNoMem, though there are frames")
	}
	if kind == api.FaultWait {
		if len(change.Frames) != 1 || change.Shoot == 0 || !write {
			p.Fatal("FaultWait", change, write)
		}
		x.waits, x.change = true, change
	}
	return kind == api.FaultDone
}

func (p *play) step() {
	p.x.Handle(p.dice.below(2 * p.x.Harts())) // often of no hart
	if len(p.procs) == 0 || p.dice.below(20) == 0 {
		p.born()
		return
	}
	i := p.dice.below(len(p.procs))
	x := p.procs[i]
	if x.waits && p.dice.below(2) == 0 {
		p.settle(x)
		return
	}
	what := p.dice.below(20)
	if x.waits {
		what = 19
	}
	switch what {
	case 0, 1:
		p.mapSome(x)
	case 2:
		if p.dice.below(3) == 0 {
			p.unmap(x)
		}
	case 3:
		p.fork(x)
	case 5:
		p.load(x)
	case 6:
		if p.dice.below(4) == 0 {
			p.free(i)
		}
	default:
		p.access(x)
	}
}

// uses is how often each frame is named, as P13.11 tells it.
func (p *play) uses() map[int]int {
	uses := map[int]int{}
	var all []*space.Space
	for _, x := range p.procs {
		all = append(all, x.s)
		if x.child != nil {
			all = append(all, x.child)
		}
		for _, n := range x.change.Frames {
			uses[n]++
		}
	}
	for _, s := range all {
		frames := 1 + len(s.Table().Leaves())
		uses[s.Table().Root()]++
		for _, n := range s.Table().Leaves() {
			uses[n]++
		}
		for _, e := range s.Table().All() {
			uses[ptab.Frame(e)]++
			frames++
		}
		if s.Frames() != frames {
			p.Fatal("Frames", s.Frames(), frames)
		}
	}
	return uses
}

// hold holds all against the model, and against P13.9 to P13.11.
func (p *play) hold() {
	for n, count := range p.f.All() {
		if count == 0 {
			p.Fatal("frame", n)
		}
	}
	uses := p.uses()
	for n := range p.m.Frames() {
		if p.f.Count(n) != uses[n] {
			p.Fatal("frame", n, "is used", p.f.Count(n), "times, and named", uses[n])
		}
	}
	if !p.f.Right() {
		p.Fatal("a free frame's bytes are not 0")
	}
	for _, x := range p.procs {
		p.holdPages(x)
		p.holdKept(x)
	}
}

func (p *play) holdPages(x *proc) {
	for n := range api.Pages {
		want, has := x.pages[n]
		b, ok := x.s.Page(n)
		if ok != has || x.s.Has(n) != has || ok && !bytes.Equal(b, want[:]) {
			p.Fatal("page", n, "of", x.s.Id(), ok, has)
		}
		if e := entry(x.s, n); e&api.PteWrite != 0 && p.f.Count(ptab.Frame(e)) != 1 {
			p.Fatal("page", n, "can be written, though its frame is not its alone")
		}
	}
	var pages []int
	for _, r := range x.s.Regions() {
		if l := len(pages); l > 0 && pages[l-1] >= r.First-1 {
			p.Fatal("Regions", x.s.Regions())
		}
		for n := range r.Count {
			pages = append(pages, r.First+n)
		}
	}
	if !slices.Equal(pages, slices.Sorted(keys(x))) {
		p.Fatal("Regions", x.s.Regions())
	}
	if x.child != nil && !slices.Equal(x.child.Regions(), x.claimed) {
		p.Fatal("the child's Regions", x.child.Regions(), x.claimed)
	}
}

// holdKept holds what harts keep: frames that are in use; once changes are settled just those of the table, written only where that allows it.
func (p *play) holdKept(x *proc) {
	for hart := range p.x.Harts() {
		for _, k := range p.x.Kept(hart) {
			if k.Space != x.s.Id() {
				continue
			}
			kept, _ := p.x.Look(hart, k)
			is := entry(x.s, k.Page)
			if p.f.Count(ptab.Frame(kept)) == 0 {
				p.Fatal("hart", hart, "keeps a frame that was let go")
			}
			if x.waits {
				continue
			}
			if ptab.Frame(kept) != ptab.Frame(is) || kept&api.PteWrite > is&api.PteWrite {
				p.Fatalf("hart %d keeps %#x of %v, where the table has %#x", hart, kept, k, is)
			}
		}
	}
}

// P13.4 to P13.11: whatever harts keep, whenever they handle their interrupts, what is read and written is what a machine without frames and translations has.
func TestAgainstModel(t *testing.T) {
	done := map[string]int{}
	for seed := range 4 {
		for _, frames := range []int{8, 30, 60, 120} {
			for _, harts := range []int{1, 2, 3} {
				p := &play{rig: make1(t, frames, harts), dice: dice(seed*100 + frames*10 + harts), ids: map[int]bool{}, done: done}
				for range 600 {
					p.step()
					p.hold()
				}
			}
		}
	}
	for _, what := range []string{"done", "bad", "nomem", "wait", "settled", "written"} {
		if done[what] < 100 {
			t.Error("too little happened:", what, done[what])
		}
	}
	t.Log(done)
}
