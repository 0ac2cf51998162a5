package pm_test

import (
	"cmp"
	"maps"
	"slices"
	"strings"

	"parapet/api"
	"parapet/image"
	"parapet/insn"
)

// The model beside: who has what is told by pointers alone, and nothing is counted that can be found by looking.

type leaf struct {
	dir   bool
	bytes []byte
	kids  map[string]*leaf
}

// hose is a pipe.
type hose struct{ bytes []byte }

// handle is an open file: of a file, of an end of a pipe, or of the console.
type handle struct {
	on     *leaf
	hose   *hose
	reads  bool
	writes bool
	at     int
}

type person struct {
	pid     int
	parent  *person
	zombie  bool
	code    int32
	memory  []int // 65536 bytes; below 0: not there
	handles [16]*handle
	strands []*strand
}

type strand struct {
	tid   int
	who   *person
	cpu   api.Cpu
	state int
	code  uint32
	woken bool
}

// land is a world.
type land struct {
	root   *leaf
	people []*person
	pids   int
	tids   int
	came   []byte
	over   bool
	output []byte
	asleep []*strand // in the order in which they went to sleep
}

// What a call comes to.
const (
	isTold = iota
	isGone
	isBlocked
	isAsleep
	isAny
)

func newLand(files []api.Placed) *land {
	l := &land{root: &leaf{dir: true, kids: map[string]*leaf{}}}
	for _, x := range files {
		names := parts(x.Path)
		d := l.root
		for _, name := range names[:len(names)-1] {
			d = d.kids[name]
		}
		d.kids[names[len(names)-1]] = &leaf{dir: x.Dir, bytes: []byte(x.Bytes), kids: map[string]*leaf{}}
	}
	p := l.person(nil)
	p.handles[0], p.handles[1] = &handle{reads: true}, &handle{writes: true}
	x, _ := image.Parse(l.root.kids["init"].bytes)
	p.memory = spread(x)
	l.strand(p, api.Cpu{PC: uint32(x.Entry)})
	return l
}

func (l *land) person(parent *person) *person {
	l.pids++
	p := &person{pid: l.pids, parent: parent}
	l.people = append(l.people, p)
	return p
}

func (l *land) strand(p *person, c api.Cpu) *strand {
	l.tids++
	s := &strand{tid: l.tids, who: p, cpu: c, state: api.ThreadUser}
	p.strands = append(p.strands, s)
	return s
}

// spread is the memory of an image.
func spread(x api.Image) []int {
	m := slices.Repeat([]int{-1}, 1<<16)
	for _, g := range x.Segments {
		for i := range (len(g.Bytes) + 255) / 256 * 256 {
			m[g.Addr+i] = 0
		}
		for i, b := range g.Bytes {
			m[g.Addr+i] = int(b)
		}
	}
	for _, z := range x.Zero {
		clear(m[z.First*256 : (z.First+z.Count)*256])
	}
	return m
}

func (l *land) find(tid int) *strand {
	for _, p := range l.people {
		for _, s := range p.strands {
			if s.tid == tid {
				return s
			}
		}
	}
	return nil
}

func (l *land) process(pid int) *person {
	for _, p := range l.people {
		if p.pid == pid {
			return p
		}
	}
	return nil
}

func (l *land) end(p *person, code int32) {
	if p.pid == 1 {
		l.people = nil
		return
	}
	p.zombie, p.code, p.memory, p.handles, p.strands = true, code, nil, [16]*handle{}, nil
	l.asleep = slices.DeleteFunc(l.asleep, func(s *strand) bool { return s.who == p })
	for _, x := range l.people {
		if x.parent == p {
			x.parent = l.process(1)
		}
	}
}

func (p *person) byte(at uint32) int {
	if at >= 1<<16 || p.memory == nil {
		return -1
	}
	return p.memory[at]
}

// there tells whether n bytes are.
func (p *person) there(at, n uint32) bool {
	for i := range n {
		if at+i < at || p.byte(at+i) < 0 {
			return false
		}
	}
	return true
}

func (p *person) word(at uint32) (uint32, bool) {
	if at%4 != 0 || !p.there(at, 4) {
		return 0, false
	}
	x := uint32(0)
	for i := range uint32(4) {
		x += uint32(p.byte(at+i)) << (8 * i)
	}
	return x, true
}

func (p *person) store(at uint32, b ...byte) {
	for i, x := range b {
		p.memory[int(at)+i] = int(x)
	}
}

// step is an instruction.
func (l *land) step(s *strand) {
	x, ok := s.who.word(s.cpu.PC)
	if !ok {
		l.end(s.who, -11)
		return
	}
	c, act := insn.Step(s.cpu, x)
	value := uint32(0)
	switch act.Kind {
	case api.ActBad:
		l.end(s.who, -4)
		return
	case api.ActCall:
		s.cpu, s.state = c, api.ThreadCall
		return
	case api.ActLoad, api.ActStore, api.ActCas:
		if act.Addr%uint32(act.Size) != 0 || !s.who.there(act.Addr, uint32(act.Size)) {
			l.end(s.who, -11)
			return
		}
		for i := range uint32(act.Size) {
			value += uint32(s.who.byte(act.Addr+i)) << (8 * i)
		}
		if act.Kind == api.ActStore || act.Kind == api.ActCas && value == act.Old {
			s.who.store(act.Addr, word(act.Value)[:act.Size]...)
		}
	}
	s.cpu = insn.Finish(c, act, value)
}

// told lets a strand go on with a result.
func (s *strand) told(x int32) {
	s.cpu.R[1], s.state, s.woken = uint32(x), api.ThreadUser, false
}

// call is a call's point, if it can be; what it comes to, and what is told.
func (l *land) call(s *strand) (how int, told int32) {
	if s.woken {
		s.told(0)
		return isTold, 0
	}
	a, b, c := s.cpu.R[2], s.cpu.R[3], s.cpu.R[4]
	var x int64
	switch n := s.cpu.R[1]; n {
	case 1, 4, 8, 25:
		how, x = l.passing(s, n, a)
	case 2, 3, 5, 6, 7, 9, 10, 28:
		how, x = l.living(s, n, a, b, c)
	case 11, 12:
		x = l.mapping(s.who, n, a, b)
	case 13, 19, 20, 21, 22:
		x = l.naming(s.who, n, a, b)
	case 14, 15, 16, 17, 18, 23, 27, 30:
		how, x = l.holding(s.who, n, a, b, c)
	case 24, 26:
	case 29:
		how = isAny
	default:
		x = -38
	}
	if how == isTold {
		s.told(int32(x))
	}
	return how, int32(x)
}

// passing is calls behind which somebody may be gone.
func (l *land) passing(s *strand, n, a uint32) (int, int64) {
	others := slices.ContainsFunc(s.who.strands, func(x *strand) bool { return x != s && x.state != api.ThreadEnded })
	switch n {
	case 1:
		l.end(s.who, int32(a))
		return isGone, 0
	case 4:
		p := l.process(int(a))
		if p == nil || p.zombie {
			return isTold, -3
		}
		l.end(p, -9)
		if p == s.who || p.pid == 1 {
			return isGone, 0
		}
		return isTold, 0
	case 8:
		if !others {
			l.end(s.who, int32(a))
		} else {
			s.state, s.code = api.ThreadEnded, a
		}
		return isGone, 0
	}
	names, e := s.who.path(a)
	if e != 0 {
		return isTold, e
	}
	if others {
		return isTold, -16
	}
	f, e := l.walk(names)
	if e != 0 {
		return isTold, e
	}
	if f.dir {
		return isTold, -21
	}
	x, bad := image.Parse(f.bytes)
	if bad != api.OK {
		return isTold, -8
	}
	s.who.memory, s.who.strands = spread(x), []*strand{s}
	s.cpu, s.state = api.Cpu{PC: uint32(x.Entry)}, api.ThreadUser
	return isGone, 0
}

func (l *land) living(s *strand, n, a, b, c uint32) (int, int64) {
	p := s.who
	strands := 0
	for _, x := range l.people {
		strands += len(x.strands)
	}
	switch n {
	case 2:
		if len(l.people) == 32 || strands == 64 {
			return isTold, -11
		}
		child := l.person(p)
		child.memory, child.handles = slices.Clone(p.memory), p.handles
		c := s.cpu
		c.R[1] = 0
		l.strand(child, c)
		return isTold, int64(child.pid)
	case 3:
		return l.waiting(p, a)
	case 5:
		return isTold, int64(p.pid)
	case 6:
		if strands == 64 {
			return isTold, -11
		}
		return isTold, int64(l.strand(p, api.Cpu{PC: a, R: [16]uint32{2: c, 14: b}}).tid)
	case 7:
		at := slices.IndexFunc(p.strands, func(x *strand) bool { return x.tid == int(a) })
		switch {
		case int(a) == s.tid:
			return isTold, -22
		case at < 0:
			return isTold, -3
		case p.strands[at].state != api.ThreadEnded:
			return isBlocked, 0
		}
		code := p.strands[at].code
		p.strands = slices.Delete(p.strands, at, at+1)
		return isTold, int64(code)
	case 9:
		x, ok := p.word(a)
		switch {
		case a%4 != 0:
			return isTold, -22
		case !ok:
			return isTold, -14
		case x != b:
			return isTold, -11
		}
		return isAsleep, 0
	case 10:
		if a%4 != 0 {
			return isTold, -22
		}
		return isTold, l.wake(p, a, b)
	}
	return isTold, int64(s.tid)
}

func (l *land) wake(p *person, at, most uint32) int64 {
	woken := uint32(0)
	for _, x := range slices.Clone(l.asleep) {
		if x.who == p && x.cpu.R[2] == at && woken < most {
			woken++
			x.state, x.woken = api.ThreadCall, true
			l.asleep = slices.DeleteFunc(l.asleep, func(y *strand) bool { return x == y })
		}
	}
	return int64(woken)
}

func (l *land) waiting(p *person, a uint32) (int, int64) {
	children := 0
	for i, x := range l.people {
		if x.parent != p {
			continue
		}
		children++
		if !x.zombie {
			continue
		}
		if a != 0 {
			if _, ok := p.word(a); !ok {
				return isTold, -14
			}
			p.store(a, word(uint32(x.code))...)
		}
		l.people = slices.Delete(l.people, i, i+1)
		return isTold, int64(x.pid)
	}
	if children == 0 {
		return isTold, -10
	}
	return isBlocked, 0
}

func (l *land) mapping(p *person, n, a, b uint32) int64 {
	if n == 11 {
		if a == 0 || a > 64 {
			return -22
		}
		for at := 128 * 256; at+int(a)*256 <= 1<<16; at += 256 {
			part := p.memory[at : at+int(a)*256]
			if !slices.ContainsFunc(part, func(x int) bool { return x >= 0 }) {
				clear(part)
				return int64(at)
			}
		}
		return -12
	}
	if a%256 != 0 || b == 0 || int64(a/256)+int64(b) > 256 {
		return -22
	}
	for i := range int(b) * 256 {
		p.memory[int(a)+i] = -1
	}
	return 0
}

// parts is a path's names.
func parts(path string) []string {
	return slices.DeleteFunc(strings.Split(path, "/"), func(s string) bool { return s == "" })
}

func (p *person) path(at uint32) ([]string, int64) {
	var b []byte
	for len(b) < 65 {
		x := p.byte(at + uint32(len(b)))
		if x < 0 {
			return nil, -14
		}
		if x == 0 {
			return named(string(b))
		}
		b = append(b, byte(x))
	}
	return nil, -36
}

func named(path string) ([]string, int64) {
	l := parts(path)
	if path == "" || path[0] != '/' || len(l) > 32 || slices.ContainsFunc(l, func(s string) bool { return len(s) > 14 }) {
		return nil, -22
	}
	return l, 0
}

func (l *land) walk(names []string) (*leaf, int64) {
	f := l.root
	for _, name := range names {
		if !f.dir {
			return nil, -20
		}
		if f = f.kids[name]; f == nil {
			return nil, -2
		}
	}
	return f, 0
}

// above is the directory of the last of some names.
func (l *land) above(names []string) (*leaf, int64) {
	d, e := l.walk(names[:len(names)-1])
	if e == 0 && !d.dir {
		return nil, -20
	}
	return d, e
}

// open is all that is open, each once.
func (l *land) open() []*handle {
	var all []*handle
	for _, p := range l.people {
		for _, h := range p.handles {
			if h != nil && !slices.Contains(all, h) {
				all = append(all, h)
			}
		}
	}
	return all
}

func (l *land) naming(p *person, n, a, b uint32) int64 {
	if n == 13 && b > 3 {
		return -22
	}
	names, e := p.path(a)
	if e != 0 {
		return e
	}
	if n == 13 {
		return l.opening(p, names, b)
	}
	if n >= 21 {
		others, e := p.path(b)
		if e != 0 {
			return e
		}
		if n == 21 {
			return l.linking(names, others)
		}
		return l.renaming(names, others)
	}
	if len(names) == 0 {
		return map[uint32]int64{19: -17, 20: -16}[n]
	}
	d, e := l.above(names)
	if e != 0 {
		return e
	}
	last := names[len(names)-1]
	f := d.kids[last]
	switch {
	case n == 19 && f != nil:
		return -17
	case n == 19:
		d.kids[last] = &leaf{dir: true, kids: map[string]*leaf{}}
	case f == nil:
		return -2
	case len(f.kids) > 0:
		return -39
	default:
		delete(d.kids, last)
	}
	return 0
}

func (l *land) opening(p *person, names []string, flags uint32) int64 {
	fd := slices.Index(p.handles[:], nil)
	if fd < 0 {
		return -24
	}
	if len(l.open()) >= 64 {
		return -23
	}
	f, e := l.walk(names)
	if e == -2 && flags%2 == 1 {
		d, e := l.above(names)
		if e != 0 {
			return e
		}
		f = &leaf{}
		d.kids[names[len(names)-1]] = f
	} else if e != 0 {
		return e
	}
	if f.dir && flags != 0 {
		return -21
	}
	if flags >= 2 {
		f.bytes = nil
	}
	p.handles[fd] = &handle{on: f, reads: true, writes: true}
	return int64(fd)
}

func (l *land) linking(a, b []string) int64 {
	f, e := l.walk(a)
	switch {
	case e != 0:
		return e
	case f.dir:
		return -21
	case len(b) == 0:
		return -17
	}
	d, e := l.above(b)
	if e != 0 {
		return e
	}
	if d.kids[b[len(b)-1]] != nil {
		return -17
	}
	d.kids[b[len(b)-1]] = f
	return 0
}

func (l *land) renaming(a, b []string) int64 {
	if len(a) == 0 || len(b) == 0 {
		return -16
	}
	f, e := l.walk(a)
	if e != 0 {
		return e
	}
	d, e := l.above(b)
	if e != 0 {
		return e
	}
	if f.dir && f.below(d) {
		return -22
	}
	was := d.kids[b[len(b)-1]]
	switch {
	case was == f:
		return 0
	case was == nil:
	case was.dir && !f.dir:
		return -21
	case f.dir && !was.dir:
		return -20
	case len(was.kids) > 0:
		return -39
	}
	from, _ := l.above(a)
	delete(from.kids, a[len(a)-1])
	d.kids[b[len(b)-1]] = f
	return 0
}

// below tells whether d is f, or lies in it.
func (f *leaf) below(d *leaf) bool {
	if f == d {
		return true
	}
	for _, kid := range f.kids {
		if kid.below(d) {
			return true
		}
	}
	return false
}

// ends tells whether somebody reads a pipe, and whether somebody writes to it.
func (l *land) ends(x *hose) (reads, writes bool) {
	for _, h := range l.open() {
		reads = reads || h.hose == x && h.reads
		writes = writes || h.hose == x && h.writes
	}
	return reads, writes
}

func (l *land) holding(p *person, n, a, b, c uint32) (int, int64) {
	if n == 18 {
		return isTold, l.piping(p, a)
	}
	if a > 15 || p.handles[a] == nil {
		return isTold, -9
	}
	h := p.handles[a]
	isFile := h.on != nil && !h.on.dir
	switch n {
	case 14:
		p.handles[a] = nil
	case 15, 16:
		return l.copying(p, h, n, b, c)
	case 17:
		fd := slices.Index(p.handles[:], nil)
		if fd < 0 {
			return isTold, -24
		}
		p.handles[fd] = h
		return isTold, int64(fd)
	case 23:
		if !isFile {
			return isTold, -22
		}
		return isTold, int64(len(h.on.bytes))
	case 27:
		if !isFile || b > 16384 {
			return isTold, -22
		}
		h.at = int(b)
		return isTold, int64(b)
	case 30:
		return isTold, l.polling(h, b)
	}
	return isTold, 0
}

func (l *land) piping(p *person, a uint32) int64 {
	free := 0
	for _, h := range p.handles {
		if h == nil {
			free++
		}
	}
	switch {
	case a%4 != 0:
		return -22
	case !p.there(a, 8):
		return -14
	case free < 2:
		return -24
	case len(l.open()) > 62:
		return -23
	}
	x := &hose{}
	for i := range uint32(2) {
		fd := slices.Index(p.handles[:], nil)
		p.handles[fd] = &handle{hose: x, reads: i == 0, writes: i == 1}
		p.store(a+4*i, word(uint32(fd))...)
	}
	return 0
}

func (l *land) copying(p *person, h *handle, n, at, count uint32) (int, int64) {
	switch {
	case n == 15 && !h.reads || n == 16 && !h.writes:
		return isTold, -9
	case count > 1024:
		return isTold, -22
	case !p.there(at, count):
		return isTold, -14
	case h.on != nil && h.on.dir:
		return isTold, -21
	case n == 15:
		return l.reading(p, h, at, int(count))
	}
	var b []byte
	for i := range count {
		b = append(b, byte(p.byte(at+i)))
	}
	return l.writing(h, b)
}

func (l *land) reading(p *person, h *handle, at uint32, n int) (int, int64) {
	from, ended := &l.came, l.over
	switch {
	case h.on != nil:
		b := h.on.bytes[min(h.at, len(h.on.bytes)):]
		b = b[:min(n, len(b))]
		p.store(at, b...)
		h.at += len(b)
		return isTold, int64(len(b))
	case h.hose != nil:
		_, writes := l.ends(h.hose)
		from, ended = &h.hose.bytes, !writes
	}
	if len(*from) == 0 && !ended && n > 0 {
		return isBlocked, 0
	}
	n = min(n, len(*from))
	p.store(at, (*from)[:n]...)
	*from = (*from)[n:]
	return isTold, int64(n)
}

func (l *land) writing(h *handle, b []byte) (int, int64) {
	switch {
	case h.on != nil:
		if h.at+len(b) > 16384 {
			return isTold, -27
		}
		for _, x := range b {
			for len(h.on.bytes) <= h.at {
				h.on.bytes = append(h.on.bytes, 0)
			}
			h.on.bytes[h.at] = x
			h.at++
		}
	case h.hose != nil:
		reads, _ := l.ends(h.hose)
		switch {
		case !reads:
			return isTold, -32
		case len(b) > 0 && len(h.hose.bytes) == 512:
			return isBlocked, 0
		}
		b = b[:min(len(b), 512-len(h.hose.bytes))]
		h.hose.bytes = append(h.hose.bytes, b...)
	case len(l.output)+len(b) > 1<<20:
		return isTold, -28
	default:
		l.output = append(l.output, b...)
	}
	return isTold, int64(len(b))
}

func (l *land) polling(h *handle, what uint32) int64 {
	if what != 1 && what != 2 {
		return -22
	}
	if h.on != nil || what == 1 && !h.reads || what == 2 && !h.writes {
		return 1
	}
	room, more, bytes := true, !l.over, l.came
	if h.hose != nil {
		reads, writes := l.ends(h.hose)
		room, more, bytes = len(h.hose.bytes) < 512 || !reads, writes, h.hose.bytes
	}
	if what == 1 && len(bytes) == 0 && more || what == 2 && !room {
		return 0
	}
	return 1
}

// What pm tells, of the model.

func (l *land) procs() []api.Process {
	var out []api.Process
	for _, p := range l.people {
		x := api.Process{Pid: p.pid, Zombie: p.zombie, Code: p.code}
		if p.parent != nil {
			x.Parent = p.parent.pid
		}
		out = append(out, x)
	}
	return out
}

func (l *land) threads() []api.Running {
	var out []api.Running
	for _, p := range l.people {
		for _, s := range p.strands {
			out = append(out, api.Running{Tid: s.tid, Pid: p.pid, Cpu: s.cpu, State: s.state})
		}
	}
	slices.SortFunc(out, func(a, b api.Running) int { return cmp.Compare(a.Tid, b.Tid) })
	return out
}

func (f *leaf) tree(path string) []api.Placed {
	var out []api.Placed
	for _, name := range slices.Sorted(maps.Keys(f.kids)) {
		x := f.kids[name]
		out = append(out, api.Placed{Path: path + "/" + name, Dir: x.dir, Bytes: string(x.bytes)})
		out = append(out, x.tree(path+"/"+name)...)
	}
	return out
}

// gather puts f, and all that is in it, into l.
func (f *leaf) gather(l map[*leaf]int) {
	l[f]++
	for _, kid := range f.kids {
		kid.gather(l)
	}
}

func (p *person) pages() []byte {
	var out []byte
	for n := range 256 {
		if p.memory == nil || p.memory[n*256] < 0 {
			out = append(out, 0)
			continue
		}
		out = append(out, 1)
		for _, x := range p.memory[n*256 : n*256+256] {
			out = append(out, byte(x))
		}
	}
	return out
}
