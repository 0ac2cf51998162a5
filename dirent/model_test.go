package dirent_test

import (
	"slices"
	"testing"

	"parapet/api"
	"parapet/dirent"
	"parapet/disk"
	"parapet/inode"
	"parapet/wlog"
)

// dice are numbers that are the same in each run.
type dice uint64

func (d *dice) below(n int) int {
	*d = *d*6364136223846793005 + 1442695040888963407
	return int(uint64(*d)>>33) % n
}

// model is a directory as the chapter tells it: which name stands in which slot, and what names name.
type model struct {
	slots []string // none: ""
	names map[string]int
	most  int
}

func (m *model) add(name string, n int) api.Errno {
	if m.names[name] != 0 {
		return api.ErrExist
	}
	i := slices.Index(m.slots, "")
	if i < 0 {
		i = len(m.slots)
		m.slots = append(m.slots, "")
	}
	m.slots[i] = name
	m.names[name] = n
	m.most = max(m.most, len(m.names))
	return api.OK
}

func (m *model) remove(name string) (int, api.Errno) {
	n := m.names[name]
	if n == 0 {
		return 0, api.ErrNone
	}
	m.slots[slices.Index(m.slots, name)] = ""
	delete(m.names, name)
	return n, api.OK
}

func (m *model) change(name string, n int) (int, api.Errno) {
	was := m.names[name]
	if was == 0 {
		return 0, api.ErrNone
	}
	m.names[name] = n
	return was, api.OK
}

func (m *model) list() []api.Entry {
	var l []api.Entry
	for _, name := range m.slots {
		if name != "" {
			l = append(l, api.Entry{Name: name, Inode: m.names[name]})
		}
	}
	return l
}

// name is one of some, of all lengths.
func (d *dice) name(some int) string {
	n := d.below(some)
	b := []byte{byte('a' + n%26), byte('0' + n/26)}
	for range n % 13 {
		b = append(b, 0xff)
	}
	return string(b)
}

func step(t *testing.T, r *dice, s api.Store, m *model, some int) {
	t.Helper()
	name, n := r.name(some), 1+r.below(example.Inodes)
	switch r.below(5) {
	case 0, 1:
		if e, want := dirent.Add(s, example, dir, name, n), m.add(name, n); e != want {
			t.Fatal("Add", name, n, e, want)
		}
	case 2:
		a, e := dirent.Remove(s, example, dir, name)
		if b, want := m.remove(name); a != b || e != want {
			t.Fatal("Remove", name, a, e, b, want)
		}
	case 3:
		a, e := dirent.Change(s, example, dir, name, n)
		if b, want := m.change(name, n); a != b || e != want {
			t.Fatal("Change", name, n, a, e, b, want)
		}
	}
}

func hold(t *testing.T, r *dice, s api.Store, m *model, some int) {
	t.Helper()
	lists(t, s, m.list()...)
	name := r.name(some)
	want := api.OK
	if m.names[name] == 0 {
		want = api.ErrNone
	}
	if n, e := dirent.Find(s, example, dir, name); n != m.names[name] || e != want {
		t.Fatal("Find", name, n, e, want)
	}
	if x, e := inode.Get(s, example, dir); x.Size > 16*m.most || x.Size != 16*len(m.slots) || e != api.OK {
		t.Fatal("Size", x.Size, m.most, e)
	}
	if t.Failed() {
		t.FailNow()
	}
}

// P18.3: a directory is a map from names to numbers, whatever is added, removed and changed.
func TestAgainstModel(t *testing.T) {
	r := dice(18)
	for _, some := range []int{1, 2, 5, 30, 200} {
		for range 3 {
			s := make1(t)
			m := &model{names: map[string]int{}}
			for range 300 {
				step(t, &r, s, m, some)
				hold(t, &r, s, m, some)
			}
		}
	}
}

// Two directories, on a log that commits, do not touch one another.
func TestOnALog(t *testing.T) {
	r := dice(183)
	d, _ := disk.New(example.Sectors)
	inode.Format(d, example)
	log, _ := wlog.Format(d, 1, example.Log)
	for range 2 {
		inode.Alloc(log, example, api.InodeDir)
	}
	if e := dirent.Add(log, example, 2, "a", 1); e != api.OK {
		t.Error("Add", e)
	}
	m := &model{names: map[string]int{}}
	for range 300 {
		step(t, &r, log, m, 60)
		hold(t, &r, log, m, 60)
		if _, e := log.Commit(); e != api.OK {
			t.Fatal("Commit", e)
		}
	}
	d.Crash(nil)
	hold(t, &r, d, m, 60)
	if l, e := dirent.List(d, example, 2); !slices.Equal(l, []api.Entry{{Name: "a", Inode: 1}}) || e != api.OK {
		t.Error("List", l, e)
	}
}

// R1: whatever a directory's bytes are.
func TestNothingPanics(t *testing.T) {
	r := dice(181)
	for range 300 {
		s := make1(t)
		b := make([]byte, r.below(200))
		some := 1 + r.below(255)
		for i := range b {
			b[i] = byte(r.below(some))
		}
		lay(t, s, b)
		named(s, example, dir, r.name(9))
		unnamed(s, example, dir)
		dirent.Add(s, example, dir, r.name(9), 1+r.below(16))
	}
}
