package pm_test

import (
	"fmt"
	"reflect"
	"slices"
	"strings"
	"testing"

	"parapet/api"
	"parapet/pm"
)

// dice are numbers that are the same in each run.
type dice uint64

func (d *dice) below(n int) int {
	*d = *d*6364136223846793005 + 1442695040888963407
	return int(uint64(*d)>>33) % n
}

func (d *dice) of(l ...uint32) uint32 {
	return l[d.below(len(l))]
}

// play is a world, and the model beside it.
type play struct {
	*rig
	d *dice
	l *land
	// How often each call was told what, by its number and its name for that.
	seen map[string]int
}

// spelt is paths that are laid into each process's memory, sixteen bytes each.
var spelt = []string{
	"/", "/a", "/b", "/c", "/d", "/d/a", "/d/b", "/d/e", "/d/e/a", "/e", "/e/d", "/e/d/a", "/a/x", "/gone/x", "//d//", "a", "/d/e/f/g", "", "/b/", "/init", "/init", "/init", "/text", "/d/text",
}

const (
	spellAt = 0x100
	room    = 0x300 // 0x300 to 0x6ff is there
)

// played is a world whose programs obey.
func played(t *testing.T, d *dice, seen map[string]int) *play {
	var b []byte
	for _, s := range spelt {
		b = append(b, (s + strings.Repeat("\x00", 16))[:16]...)
	}
	init := imaged(t, api.Image{
		Segments: []api.Segment{{Bytes: assembled(t, obey)}, {Addr: spellAt, Bytes: b}},
		Zero:     []api.Region{{First: 3, Count: 4}},
	})
	files := []api.Placed{{Path: "/init", Bytes: init}, {Path: "/text", Bytes: strings.Repeat("text", 30)}, {Path: "/d", Dir: true}, {Path: "/d/text", Bytes: strings.Repeat("x", 16000)}}
	return &play{rigged(t, files), d, newLand(files), seen}
}

// address is one that often is there; seldom one where the program lies.
func (p *play) address() uint32 {
	switch p.d.below(20) {
	case 0:
		return uint32(p.d.below(1 << 16))
	case 1:
		return p.d.of(0x700, 0x6ff, 0x6fd, 1<<16-2, 1<<16, 1<<32-1, 1<<32-4, 1<<16+room, 128*256, 129*256-3)
	case 2, 3:
		return uint32(128*256 + p.d.below(3)*256)
	}
	return uint32(room + 4*p.d.below(6) + p.d.below(9)/8)
}

func (p *play) name() uint32 {
	if p.d.below(20) == 0 {
		return p.address()
	}
	return uint32(spellAt + 16*p.d.below(len(spelt)))
}

// fd is a descriptor that often is of something.
func (p *play) fd(who *person) uint32 {
	switch p.d.below(20) {
	case 0:
		return p.d.of(15, 16, 17, 1<<32-1)
	case 1:
		return uint32(p.d.below(9))
	}
	var l []uint32
	for fd, h := range who.handles {
		if h != nil {
			l = append(l, uint32(fd))
		}
	}
	return p.d.of(append(l, 9)...)
}

// mate is a tid of the same process that often has ended.
func (p *play) mate(who *person) uint32 {
	var l []uint32
	for _, s := range who.strands {
		l = append(l, uint32(s.tid))
		if s.state == api.ThreadEnded {
			l = append(l, uint32(s.tid), uint32(s.tid))
		}
	}
	return p.d.of(append(l, 0, uint32(p.l.tids+1))...)
}

// refuses is as of a rig; whether something has changed is looked at closely now and then, since all is held against the model behind it.
func (p *play) refuses(e api.Event) {
	p.Helper()
	if p.d.below(50) == 0 {
		p.rig.refuses(e)
	} else if got := p.w.Do(e); got != api.ErrEvent {
		p.Fatalf("Do(%+v): %v", e, got)
	}
}

func (p *play) count() uint32 {
	return p.d.of(0, 1, 1, 2, 5, 40, 100, 300, 600, 1000, 1024, 1025, 1<<32-1)
}

// order is a call with arguments that are like what it wants.
func (p *play) order(who *person) [4]uint32 {
	d := p.d
	n := d.of(1, 2, 2, 3, 3, 4, 5, 6, 7, 7, 8, 8, 9, 9, 10, 11, 12, 13, 13, 13, 13, 14, 15, 15, 15, 16, 16, 16, 17, 18, 19, 19, 20, 20, 21, 21, 22, 22, 22, 23, 24, 25, 25, 25, 26, 27, 28, 29, 30, 30)
	if d.below(60) == 0 {
		n = d.of(0, 31, 77, 1<<31, 1<<32-1)
	}
	// The process 1 ends seldom, others not so often as they begin.
	rare := 3
	if who.pid == 1 {
		rare = 60
	}
	awake := 0
	for _, x := range who.strands {
		if x.state == api.ThreadUser || x.state == api.ThreadCall {
			awake++
		}
	}
	if (n == 1 || (n == 8 || n == 9) && awake == 1) && d.below(rare) > 0 {
		n = d.of(2, 10, 13, 15, 16)
	}
	x := [4]uint32{n, uint32(d.below(4)), uint32(d.below(3)), uint32(d.below(4))}
	switch n {
	case 3:
		x[1] = d.of(0, p.address())
	case 4:
		x[1] = d.of(0, uint32(p.somebody()), uint32(p.somebody()), 99)
	case 6:
		x[1] = d.of(0, 44)
		if d.below(rare) == 0 {
			x[1] = d.of(5, 0x700, 0x300)
		}
	case 7:
		x[1] = p.mate(who)
	case 9:
		x[1], x[2] = p.address(), 0
	case 10:
		x[1] = p.address()
		if n := len(p.l.asleep); n > 0 {
			x[1] = p.l.asleep[d.below(n)].cpu.R[2]
		}
	case 11:
		x[1] = d.of(0, 1, 2, 3, 40, 64, 65)
	case 12:
		x[1], x[2] = d.of(128*256, 129*256, 130*256, 0x600, 1, 1<<16), d.of(0, 1, 1, 2, 126, 127, 128, 300)
	case 13:
		x[1], x[2] = p.name(), uint32(d.below(5))
	case 14, 17:
		x[1] = p.fd(who)
	case 15, 16:
		x[1], x[2], x[3] = p.fd(who), p.address(), p.count()
	case 18:
		x[1] = p.address()
	case 25:
		x[1] = d.of(p.name(), spellAt+19*16) // /init, if it is there still
	case 19, 20:
		x[1] = p.name()
	case 21, 22:
		x[1], x[2] = p.name(), p.name()
	case 23:
		x[1] = p.fd(who)
	case 27:
		x[1], x[2] = p.fd(who), d.of(0, 1, 7, 300, 15900, 16384, 16385)
	case 30:
		x[1], x[2] = p.fd(who), uint32(d.below(4))
	}
	// Nobody closes what orders come from, or fills it.
	if (n == 14 || n == 15) && x[1] == 0 && d.below(40) > 0 {
		x[1] = 2
	}
	return x
}

// somebody is a pid that is, and seldom that of the process 1.
func (p *play) somebody() int {
	pid := p.l.people[p.d.below(len(p.l.people))].pid
	if pid == 1 && p.d.below(200) > 0 {
		return 2
	}
	return pid
}

// turn lets somebody do something.
func (p *play) turn() {
	p.Helper()
	l := p.l.threads()
	t := l[p.d.below(len(l))]
	e := api.Event{Who: t.Tid}
	s := p.l.find(t.Tid)
	switch t.State {
	case api.ThreadUser:
		e.Kind = api.EvInsn
		for range 1 + p.d.below(30) {
			if s.state != api.ThreadUser || p.l.process(t.Pid) != s.who || s.who.zombie {
				return
			}
			p.does(e)
			p.l.step(s)
		}
	case api.ThreadCall:
		was := p.apart(s)
		p.point(s)
		was()
	default:
		p.refuses(api.Event{Kind: 1 + p.d.below(3), Who: t.Tid, Call: int(t.Cpu.R[1]), Result: -12})
	}
}

// P25.5: apart looks, now and then, at all processes but a strand's; what it tells holds that none of their pages and registers has changed since.
func (p *play) apart(s *strand) func() {
	if p.d.below(20) > 0 {
		return func() {}
	}
	pages, cpus := map[int][]byte{}, map[int]api.Cpu{}
	for _, t := range p.w.Threads() {
		if t.Pid != s.who.pid {
			pages[t.Pid], cpus[t.Tid] = p.memory(t.Pid), t.Cpu
		}
	}
	return func() {
		p.Helper()
		for _, t := range p.w.Threads() {
			if c, ok := cpus[t.Tid]; ok && (c != t.Cpu || !slices.Equal(pages[t.Pid], p.memory(t.Pid))) {
				p.Fatal("another one's pages or registers", t)
			}
		}
	}
}

// point lets a strand's call be done, if it can be.
func (p *play) point(s *strand) {
	p.Helper()
	x := [4]uint32(s.cpu.R[1:])
	if x == [4]uint32{15, 0, order, 16} && len(p.l.came) == 0 && !p.l.over {
		y := p.order(s.who)
		b := slices.Concat(word(y[0]), word(y[1]), word(y[2]), word(y[3]))
		p.types(string(b))
		p.l.came = append(p.l.came, b...)
	}
	e := api.Event{Kind: api.EvCall, Who: s.tid, Call: int(x[0])}
	if x[0] >= 1<<31 {
		e.Call = 0
	}
	for _, errno := range []int32{12, 28} {
		if !s.woken && besides(x[0], errno) && p.d.below(60) == 0 {
			e.Result = -errno
			p.does(e)
			s.told(-errno)
			return
		}
	}
	how, told := p.l.call(s)
	p.seen[fmt.Sprint(x[0], " ", how, " ", min(told, 0))]++
	p.others(e, how, told)
	e.Result = told
	switch how {
	case isBlocked:
		p.refuses(e)
		if p.d.below(3) > 0 {
			return
		}
		// All that block are marked.
		e.Result = -12
		s.told(-12)
	case isAsleep:
		p.refuses(e)
		e.Kind = api.EvSleep
		s.state = api.ThreadSleep
		p.l.asleep = append(p.l.asleep, s)
	case isAny:
		e.Result = int32(p.d.below(1 << 30))
		s.told(e.Result)
	}
	p.does(e)
}

// P25.4: others holds that a call is told nothing else.
func (p *play) others(e api.Event, how int, told int32) {
	p.Helper()
	for range 3 {
		e.Result = told + int32(p.d.below(9)) - 4
		if p.d.below(2) == 0 {
			e.Result = -errnos[p.d.below(len(errnos))]
		}
		if e.Result != told && !besides(uint32(e.Call), -e.Result) && (how != isAny || e.Result < 0) {
			p.refuses(e)
		}
	}
	if how != isAsleep {
		e.Kind = api.EvSleep
		p.refuses(e)
	}
}

// elsewhere lets something else happen.
func (p *play) elsewhere() {
	p.Helper()
	switch p.d.below(12) {
	case 0:
		if pid := p.somebody(); p.d.below(4) == 0 {
			e := api.Event{Kind: api.EvKill, Who: pid, Result: int32(p.d.of(1<<32-9, 1<<32-12))}
			if x := p.l.process(pid); x == nil || x.zombie {
				p.refuses(e)
			} else {
				p.does(e)
				p.l.end(x, e.Result)
			}
		}
	case 1:
		if p.d.below(400) == 0 {
			p.does(api.Event{Kind: api.EvEnd})
			p.l.over = true
		}
	case 2:
		p.refuses(api.Event{Kind: []int{-1, 0, 1, 2, 3, 4, 7}[p.d.below(7)], Who: p.d.below(3) - 3, Call: p.d.below(31), Result: -9})
	case 3:
		p.w = p.w.Fork()
	}
}

// hold holds all that is told of the world against the model.
func (p *play) hold() {
	p.Helper()
	if !slices.Equal(p.w.Procs(), p.l.procs()) {
		p.Fatal("Procs", p.w.Procs(), "not", p.l.procs())
	}
	if got, want := p.w.Threads(), p.l.threads(); !slices.Equal(got, want) {
		p.Fatalf("Threads\n%+v not\n%+v", got, want)
	}
	if p.w.Output() != string(p.l.output) {
		p.Fatal("Output")
	}
	if p.w.Halted() != (p.l.people == nil) {
		p.Fatal("Halted", p.w.Halted())
	}
}

// holdAll holds trees and memories, too.
func (p *play) holdAll() {
	p.Helper()
	p.hold()
	if got, want := p.w.Tree(), p.l.root.tree(""); !slices.Equal(got, want) {
		p.Fatalf("Tree\n%+v not\n%+v", got, want)
	}
	for _, x := range p.l.people {
		if !slices.Equal(p.memory(x.pid), x.pages()) {
			p.Fatal("memory of", x.pid)
		}
	}
	p.keeps()
}

// keeps holds that no more is kept than what has a name, or somebody has open.
func (p *play) keeps() {
	p.Helper()
	leaves, hoses := map[*leaf]int{}, map[*hose]int{}
	p.l.root.gather(leaves)
	for _, h := range p.l.open() {
		if h.on != nil {
			leaves[h.on]++
		} else if h.hose != nil {
			hoses[h.hose]++
		}
	}
	for name, want := range map[string]int{"nodes": len(leaves), "files": len(p.l.open()), "pipes": len(hoses)} {
		if n := reflect.ValueOf(p.w).Elem().FieldByName(name).Len(); n != want {
			p.Fatal(name, n, "not", want)
		}
	}
}

// P25.2 to P25.6: whoever does what, in whatever order, the world is the model's.
func TestAgainstModel(t *testing.T) {
	d := dice(25)
	seen := map[string]int{}
	for range 150 {
		p := played(t, &d, seen)
		for i := range 1500 {
			p.turn()
			if len(p.l.people) > 0 {
				p.elsewhere()
			}
			p.hold()
			if i%100 == 99 {
				p.holdAll()
			}
			if len(p.l.people) == 0 {
				break
			}
		}
		p.holdAll()
	}
	for n := 1; n <= 30; n++ {
		if seen[fmt.Sprint(n, " 0 0")]+seen[fmt.Sprint(n, " 1 0")]+seen[fmt.Sprint(n, " 4 0")] < 5 {
			t.Error("seldom told anything:", n, seen[fmt.Sprint(n, " 0 0")])
		}
	}
	if len(seen) < 100 {
		t.Error("what was told:", len(seen), seen)
	}
}

// P7: whatever bytes programs are, nothing panics, and the model goes along.
func TestAnyPrograms(t *testing.T) {
	d := dice(7)
	ended := 0
	for i := range 3000 {
		b := make([]byte, 4*(1+d.below(40)))
		for j := range b {
			b[j] = byte(d.below(256))
			if j%4 == 0 {
				b[j] = byte(1 + d.below(28))
			}
			if j%4 == 3 || i%2 == 0 && j%4 == 2 {
				b[j] = byte(d.of(0, 0, 0, 1, 255))
			}
		}
		files := []api.Placed{{Path: "/init", Bytes: imaged(t, api.Image{Segments: []api.Segment{{Bytes: b}}, Zero: []api.Region{{First: 1, Count: 1}}})}}
		w, e := pm.New(files)
		if e != api.OK {
			t.Fatal("New", e)
		}
		p := &play{&rig{t, w}, &d, newLand(files), map[string]int{}}
		for range 200 {
			if len(p.l.people) == 0 {
				ended++
				break
			}
			p.turn()
			p.hold()
		}
		p.holdAll()
	}
	if ended < 100 || ended > 2900 {
		t.Error("programs that ended:", ended)
	}
}
