package wlog_test

import (
	"bytes"
	"slices"
	"testing"

	"parapet/api"
	"parapet/disk"
	"parapet/wlog"
)

// dice are numbers that are the same in each run.
type dice uint64

func (d *dice) below(n int) int {
	*d = *d*6364136223846793005 + 1442695040888963407
	return int(uint64(*d)>>33) % n
}

// put is a block that was written, and what with.
type put struct {
	n int
	x byte
}

// model is a log as the chapter tells it: lists alone, and a commit as the list of all that it has still to do to a disk of its own.
type model struct {
	disk       *disk.Disk
	at, size   int
	generation uint64
	group      []put
	before     []put
	begun      bool
	todo       []func()
}

func (m *model) isBlock(n int) bool {
	return n >= 0 && n < m.disk.Count() && (n < m.at || n >= m.at+m.size)
}

func (m *model) find(n int) int {
	return slices.IndexFunc(m.group, func(p put) bool { return p.n == n })
}

func (m *model) numbers() []int {
	var l []int
	for _, p := range m.group {
		l = append(l, p.n)
	}
	return l
}

func (m *model) read(n int) ([]byte, api.Errno) {
	if !m.isBlock(n) {
		return nil, api.ErrArg
	}
	if i := m.find(n); i >= 0 {
		return of(m.group[i].x), api.OK
	}
	return m.disk.Read(n)
}

func (m *model) write(n int, x byte) api.Errno {
	i := m.find(n)
	switch {
	case !m.isBlock(n):
		return api.ErrArg
	case len(m.todo) > 0:
		return api.ErrBusy
	case i >= 0:
		m.group[i].x = x
	case len(m.group) == m.size-1:
		return api.ErrFull
	default:
		m.group = append(m.group, put{n, x})
	}
	return api.OK
}

func (m *model) begin() api.Errno {
	if m.begun || len(m.todo) > 0 {
		return api.ErrBusy
	}
	m.begun, m.before = true, slices.Clone(m.group)
	return api.OK
}

func (m *model) end() api.Errno {
	if !m.begun {
		return api.ErrNone
	}
	m.begun = false
	return api.OK
}

func (m *model) abort() api.Errno {
	if !m.begun {
		return api.ErrNone
	}
	m.begun, m.group = false, m.before
	return api.OK
}

func (m *model) start() bool {
	if m.begun || len(m.todo) > 0 || len(m.group) == 0 {
		return false
	}
	flush := func() { m.disk.Flush() }
	for i, p := range m.group {
		m.todo = append(m.todo, func() { m.disk.Write(m.at+1+i, of(p.x)) })
	}
	m.todo = append(m.todo, flush, func() {
		m.generation++
		m.disk.Write(m.at, head(m.generation, m.numbers()...))
	}, flush)
	for _, p := range m.group {
		m.todo = append(m.todo, func() { m.disk.Write(p.n, of(p.x)) })
	}
	m.todo = append(m.todo, flush, func() { m.disk.Write(m.at, head(m.generation)) }, func() {
		flush()
		m.group = nil
	})
	return true
}

func (m *model) step() (bool, api.Errno) {
	if len(m.todo) == 0 {
		return false, api.ErrNone
	}
	m.todo[0]()
	m.todo = m.todo[1:]
	return len(m.todo) > 0, api.OK
}

func (m *model) commit() (int, api.Errno) {
	if m.begun {
		return 0, api.ErrBusy
	}
	m.start()
	n := len(m.todo)
	for len(m.todo) > 0 {
		m.step()
	}
	return n, api.OK
}

// power lets the power of both disks go, or come back, behind as many operations.
func power(r *dice, d *disk.Disk, m *model) {
	n := r.below(12) - 4
	d.Stop(n)
	m.disk.Stop(n)
}

func act(t *testing.T, r *dice, l *wlog.Log, m *model) {
	t.Helper()
	n, x := r.below(m.disk.Count()+2)-1, byte(r.below(256))
	switch r.below(16) {
	case 0:
		if a, b := l.Begin(), m.begin(); a != b {
			t.Fatal("Begin", a, b)
		}
	case 1, 2:
		if a, b := l.End(), m.end(); a != b {
			t.Fatal("End", a, b)
		}
	case 3:
		if a, b := l.Abort(), m.abort(); a != b {
			t.Fatal("Abort", a, b)
		}
	case 4:
		if a, b := l.Start(), m.start(); a != b {
			t.Fatal("Start", a, b)
		}
	case 5, 6, 7, 8, 9:
		on, e := l.Step()
		if b, f := m.step(); on != b || e != f {
			t.Fatal("Step", on, e, b, f)
		}
	case 10:
		if r.below(4) > 0 {
			return
		}
		a, e := l.Commit()
		if b, f := m.commit(); a != b || e != f {
			t.Fatal("Commit", a, e, b, f)
		}
	case 11:
		power(r, l.Disk(), m)
	default:
		if a, b := l.Write(n, of(x)), m.write(n, x); a != b {
			t.Fatal("Write", n, a, b)
		}
	}
}

func hold(t *testing.T, l *wlog.Log, m *model) {
	t.Helper()
	if a, b := l.Dirty(), m.numbers(); !slices.Equal(a, b) {
		t.Fatal("Dirty", a, b)
	}
	if a, b := l.Room(), m.size-1-len(m.group); a != b {
		t.Fatal("Room", a, b)
	}
	if a, b := l.Running(), len(m.todo) > 0; a != b {
		t.Fatal("Running", a, b)
	}
	if a, b := l.Generation(), m.generation; a != b {
		t.Fatal("Generation", a, b)
	}
	for n := -1; n <= m.disk.Count(); n++ {
		a, e := l.Read(n)
		if b, f := m.read(n); e != f || !bytes.Equal(a, b) {
			t.Fatal("Read", n, e, f)
		}
	}
	d := l.Disk()
	_, w, f := d.Counts()
	_, v, g := m.disk.Counts()
	if w != v || f != g || !slices.Equal(d.Pending(), m.disk.Pending()) || !bytes.Equal(d.Image(), m.disk.Image()) {
		t.Fatal("the disk", w, v, f, g, d.Pending(), m.disk.Pending())
	}
}

// P16.2 to P16.5: whatever is called in whatever order, with power or without, the log and its disk are what the chapter tells.
func TestAgainstModel(t *testing.T) {
	r := dice(16)
	for _, c := range [][3]int{{3, 1, 2}, {4, 0, 2}, {8, 2, 3}, {10, 1, 4}, {12, 4, 8}} {
		for range 4 {
			d := makeDisk(t, c[0])
			g := generations[r.below(len(generations))]
			d.Write(c[1], head(g))
			m := &model{disk: d.Fork(), at: c[1], size: c[2], generation: g}
			l := opens(t, d, c[1], c[2], 0, g)
			for range 600 {
				act(t, &r, l, m)
				hold(t, l, m)
			}
		}
	}
}
