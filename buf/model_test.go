package buf_test

import (
	"bytes"
	"slices"
	"testing"

	"parapet/api"
	"parapet/buf"
	"parapet/disk"
)

// model is a cache as the chapter tells it: a list of what is kept, the longest ago first, and nothing else.
type model struct {
	room   int
	kept   []kept
	disk   []byte // of each sector: the byte that it is full of
	last   []byte // what was read or written last
	counts api.Buffering
}

type kept struct {
	n     int
	x     byte
	dirty bool
}

func (m *model) find(n int) int {
	return slices.IndexFunc(m.kept, func(k kept) bool { return k.n == n })
}

func (m *model) clean() int {
	return slices.IndexFunc(m.kept, func(k kept) bool { return !k.dirty })
}

func (m *model) take(i int) kept {
	k := m.kept[i]
	m.kept = slices.Concat(m.kept[:i], m.kept[i+1:])
	return k
}

// makeRoom tells whether there is room now.
func (m *model) makeRoom() bool {
	if len(m.kept) < m.room {
		return true
	}
	i := m.clean()
	if i < 0 {
		return false
	}
	m.take(i)
	m.counts.Evicted++
	return true
}

func (m *model) read(n int) (byte, api.Errno) {
	if i := m.find(n); i >= 0 {
		m.counts.Hits++
		m.kept = append(m.kept, m.take(i))
		return m.kept[len(m.kept)-1].x, api.OK
	}
	if n < 0 || n >= len(m.disk) {
		return 0, api.ErrSector
	}
	if !m.makeRoom() {
		return 0, api.ErrDirty
	}
	m.counts.Misses++
	m.kept = append(m.kept, kept{n: n, x: m.disk[n]})
	return m.disk[n], api.OK
}

func (m *model) write(n int, x byte) api.Errno {
	if n < 0 || n >= len(m.disk) {
		return api.ErrSector
	}
	if i := m.find(n); i >= 0 {
		m.take(i)
	} else if !m.makeRoom() {
		return api.ErrDirty
	}
	m.kept = append(m.kept, kept{n: n, x: x, dirty: true})
	m.last[n] = x
	return api.OK
}

func (m *model) back(n int) bool {
	i := m.find(n)
	if i < 0 || !m.kept[i].dirty {
		return false
	}
	m.kept[i].dirty = false
	m.disk[n] = m.kept[i].x
	m.counts.Written++
	return true
}

func (m *model) forget() int {
	n := 0
	for i := m.clean(); i >= 0; i = m.clean() {
		m.take(i)
		n++
	}
	return n
}

// dice are numbers that are the same in each run.
type dice uint64

func (d *dice) below(n int) int {
	*d = *d*6364136223846793005 + 1442695040888963407
	return int(uint64(*d)>>33) % n
}

func step(t *testing.T, r *dice, c *buf.Cache, m *model) {
	t.Helper()
	n := r.below(len(m.disk)+2) - 1
	switch r.below(20) {
	case 0:
		if a, b := c.Forget(), m.forget(); a != b {
			t.Fatal("Forget", a, b)
		}
	case 1, 2, 3, 4, 5:
		if ok, e := c.Back(n); ok != m.back(n) || e != api.OK {
			t.Fatal("Back", n, ok, e)
		}
	case 6, 7, 8, 9, 10:
		x := byte(r.below(256))
		if e, want := c.Write(n, of(x)), m.write(n, x); e != want {
			t.Fatal("Write", n, e, want)
		}
	default:
		b, e := c.Read(n)
		x, want := m.read(n)
		if e != want || e == api.OK && !bytes.Equal(b, of(x)) || e != api.OK && b != nil {
			t.Fatal("Read", n, e, want)
		}
		// P15.3: what was written last.
		if e == api.OK && x != m.last[n] {
			t.Fatal("Read", n, x, m.last[n])
		}
	}
}

func hold(t *testing.T, c *buf.Cache, d *disk.Disk, m *model) {
	t.Helper()
	var all, dirty []int
	for _, k := range m.kept {
		all = append(all, k.n)
		if k.dirty {
			dirty = append(dirty, k.n)
		}
	}
	slices.Sort(dirty)
	if l := c.Kept(); !slices.Equal(l, all) {
		t.Fatal("Kept", l, all)
	}
	if l := c.Dirty(); !slices.Equal(l, dirty) {
		t.Fatal("Dirty", l, dirty)
	}
	if x := c.Counts(); x != m.counts {
		t.Fatal("Counts", x, m.counts)
	}
	if r, w, f := d.Counts(); r != m.counts.Misses || w != m.counts.Written || f != 0 {
		t.Fatal("the disk's Counts", r, w, f)
	}
}

// holdDisk holds the disk's sectors, of another disk that is the same, since the reads count.
func holdDisk(t *testing.T, d *disk.Disk, want []byte) {
	t.Helper()
	f := d.Fork()
	for n, x := range want {
		if b, e := f.Read(n); e != api.OK || !bytes.Equal(b, of(x)) {
			t.Fatal("the disk", n, e, x)
		}
	}
}

// P15.1 to P15.3: whatever is read, written, written back and forgotten in whatever order, the cache keeps what the chapter tells, and in the end the disk has it all.
func TestAgainstModel(t *testing.T) {
	r := dice(15)
	for _, sectors := range []int{1, 2, 5, 12} {
		for _, room := range []int{1, 2, 3, 5, 11, 12, 20} {
			d := makeDisk(t, sectors)
			c, e := buf.New(d, room)
			if e != api.OK {
				t.Fatal("New", e)
			}
			m := &model{room: room}
			for n := range sectors {
				m.disk, m.last = append(m.disk, byte(n)), append(m.last, byte(n))
			}
			for range 400 {
				step(t, &r, c, m)
				hold(t, c, d, m)
				holdDisk(t, d, m.disk)
			}
			for _, n := range c.Dirty() {
				backs(t, c, n)
			}
			holdDisk(t, d, m.last)
		}
	}
}
