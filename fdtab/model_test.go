package fdtab_test

import (
	"slices"
	"testing"

	"parapet/api"
	"parapet/fdtab"
)

// dice are numbers that are the same in each run.
type dice uint64

func (d *dice) below(n int) int {
	*d = *d*6364136223846793005 + 1442695040888963407
	return int(uint64(*d)>>33) % n
}

// opened is an open file of the model; who holds it is told one by one: descriptors (table and fd), and callers (caller, and a number).
type opened struct {
	kind, what, flags, at int
	holds                 []hold
}

type hold struct{ table, fd int }

// caller is the table of those holds that no descriptor has.
const caller = -1

// model is open files by their numbers, where nobody drops what somebody else holds.
type model struct {
	files  [64]*opened
	tables int
}

func (m *model) file(id int) api.File {
	o := m.files[id]
	return api.File{Kind: o.kind, What: o.what, At: o.at, Flags: o.flags, Refs: len(o.holds)}
}

// named is the number of what a descriptor names.
func (m *model) named(h hold) (int, bool) {
	for id, o := range m.files {
		if o != nil && slices.Contains(o.holds, h) {
			return id, true
		}
	}
	return 0, false
}

// fds is the descriptors of a table that name something.
func (m *model) fds(table int) []int {
	var l []int
	for fd := range 16 {
		if _, ok := m.named(hold{table, fd}); ok {
			l = append(l, fd)
		}
	}
	return l
}

// spare is a table's least descriptor that names nothing; 16, if there is none.
func (m *model) spare(table int) int {
	l := m.fds(table)
	for i, fd := range l {
		if i != fd {
			return i
		}
	}
	return len(l)
}

// release takes a hold away, and tells how the file stands then.
func (m *model) release(id int, h hold) (api.File, bool) {
	o := m.files[id]
	at := slices.Index(o.holds, h)
	o.holds = slices.Delete(o.holds, at, at+1)
	file := m.file(id)
	if len(o.holds) == 0 {
		m.files[id] = nil
	}
	return file, len(o.holds) == 0
}

// play is Files with tables, and their model.
type play struct {
	*testing.T
	r      *dice
	f      *fdtab.Files
	m      *model
	tables []*fdtab.Table
	closed map[int]int // of each What that was opened: how often it was closed
	next   int         // the next What
}

func (p *play) open() {
	kind, flags := p.r.below(6), p.r.below(4)
	id, e := p.f.Open(kind, p.next, flags)
	least := slices.Index(p.m.files[:], nil)
	switch {
	case kind == 0 || kind == 5:
		if id != 0 || e != api.ErrArg {
			p.Fatal("Open", kind, id, e)
		}
	case least < 0:
		if id != 0 || e != api.ErrFull {
			p.Fatal("Open", id, e)
		}
	default:
		if id != least || e != api.OK {
			p.Fatal("Open", id, e, least)
		}
		p.m.files[id] = &opened{kind: kind, what: p.next, flags: flags, holds: []hold{{caller, 0}}}
		p.closed[p.next] = 0
	}
	p.next++
}

// install gives a descriptor what a caller holds; a number that nobody holds is refused.
func (p *play) install(table, id int) {
	fd, e := p.tables[table].Install(id)
	spare := p.m.spare(table)
	switch {
	case p.m.files[id] == nil:
		if fd != 0 || e != api.ErrFile {
			p.Fatal("Install", id, fd, e)
		}
	case spare == 16:
		if fd != 0 || e != api.ErrFull {
			p.Fatal("Install", id, fd, e)
		}
	default:
		if fd != spare || e != api.OK {
			p.Fatal("Install", id, fd, e)
		}
		p.m.files[id].holds[slices.Index(p.m.files[id].holds, hold{caller, 0})] = hold{table, fd}
	}
}

func (p *play) dup(table, fd int) {
	other, e := p.tables[table].Dup(fd)
	id, ok := p.m.named(hold{table, fd})
	spare := p.m.spare(table)
	switch {
	case !ok:
		if other != 0 || e != api.ErrFd {
			p.Fatal("Dup", fd, other, e)
		}
	case spare == 16:
		if other != 0 || e != api.ErrFull {
			p.Fatal("Dup", fd, other, e)
		}
	default:
		if other != spare || e != api.OK {
			p.Fatal("Dup", fd, other, e, spare)
		}
		p.m.files[id].holds = append(p.m.files[id].holds, hold{table, other})
	}
}

func (p *play) close(table, fd int) {
	file, over, e := p.tables[table].Close(fd)
	id, ok := p.m.named(hold{table, fd})
	if !ok {
		if file != (api.File{}) || over || e != api.ErrFd {
			p.Fatal("Close", fd, file, over, e)
		}
		return
	}
	want, last := p.m.release(id, hold{table, fd})
	p.told(file, over, e, want, last)
}

func (p *play) drop(id int) {
	file, over, e := p.f.Drop(id)
	want, last := p.m.release(id, hold{caller, 0})
	p.told(file, over, e, want, last)
}

func (p *play) told(file api.File, over bool, e api.Errno, want api.File, last bool) {
	p.Helper()
	if file != want || over != last || e != api.OK {
		p.Fatal("told of a Ref fewer", file, over, e, want, last)
	}
	if over {
		p.closed[file.What]++
	}
}

func (p *play) fork(table int) {
	other := forks(p.T, p.tables[table])
	for _, fd := range p.m.fds(table) {
		id, _ := p.m.named(hold{table, fd})
		p.m.files[id].holds = append(p.m.files[id].holds, hold{len(p.tables), fd})
	}
	p.tables = append(p.tables, other)
}

// end closes all of the last table, which goes.
func (p *play) end() {
	last := len(p.tables) - 1
	for fd := range 16 {
		p.close(last, fd)
	}
	p.tables = p.tables[:last]
}

// step does one call; of numbers that a caller does not hold only what changes nothing is asked.
func (p *play) step() {
	p.Helper()
	table, fd, id := p.r.below(len(p.tables)), p.r.below(18)-1, p.r.below(64)
	if p.r.below(2) == 0 {
		id = p.r.below(8)
	}
	held := p.m.files[id] != nil && slices.Contains(p.m.files[id].holds, hold{caller, 0})
	switch p.r.below(12) {
	case 0, 1, 2:
		p.open()
	case 3, 4, 5:
		if held || p.m.files[id] == nil {
			p.install(table, id)
		}
	case 6:
		p.dup(table, fd)
	case 7, 8:
		p.close(table, fd)
	case 9:
		if held && p.r.below(3) == 0 {
			p.drop(id)
		}
	case 10:
		at := p.r.below(100) - 5
		if o := p.m.files[id]; o != nil && at >= 0 {
			o.at = at
			moves(p.T, p.f, id, at, api.OK)
		} else if o != nil {
			moves(p.T, p.f, id, at, api.ErrArg)
		}
	default:
		if len(p.tables) < 4 && p.r.below(4) == 0 {
			p.fork(table)
		} else if len(p.tables) > 1 && p.r.below(4) == 0 {
			p.end()
		}
	}
}

func (p *play) hold() {
	p.Helper()
	var open []int
	for id, o := range p.m.files {
		if o == nil {
			isNone(p.T, p.f, id)
			continue
		}
		open = append(open, id)
		is(p.T, p.f, id, p.m.file(id))
		on(p.T, p.f, o.kind, o.what, 1)
	}
	all(p.T, p.f, open...)
	for table, x := range p.tables {
		fds(p.T, x, p.m.fds(table)...)
		for fd := range 16 {
			id, ok := p.m.named(hold{table, fd})
			want := api.OK
			if !ok {
				want = api.ErrFd
			}
			gets(p.T, x, fd, id, want)
		}
	}
}

// P22.1, P22.2, P22.4, P22.5: whoever opens, installs, dups, forks, closes in whatever order, Refs are those who hold it, and each is closed just once, with the last one.
func TestAgainstModel(t *testing.T) {
	r := dice(22)
	for range 10 {
		p := &play{T: t, r: &r, f: fdtab.New(), m: &model{}, closed: map[int]int{}}
		p.tables = []*fdtab.Table{p.f.Table()}
		for range 600 {
			p.step()
			p.hold()
		}
		for len(p.tables) > 0 {
			p.end()
		}
		for id, o := range p.m.files {
			if o != nil {
				p.drop(id)
			}
		}
		all(t, p.f)
		for what, n := range p.closed {
			if n != 1 {
				t.Error("closed", what, n)
			}
		}
	}
}
