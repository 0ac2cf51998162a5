package fsop_test

import (
	"bytes"
	"maps"
	"slices"
	"strings"
	"testing"

	"parapet/api"
	"parapet/dirent"
	"parapet/fsop"
)

// dice are numbers that are the same in each run.
type dice uint64

func (d *dice) below(n int) int {
	*d = *d*6364136223846793005 + 1442695040888963407
	return int(uint64(*d)>>33) % n
}

// path is one of some names, mostly of a depth of one to three.
func (d *dice) path() string {
	switch d.below(40) {
	case 0:
		return "/"
	case 1:
		return "/a/abcdefghijklmno"
	case 2:
		return "a"
	}
	path := ""
	for range 1 + d.below(3) {
		path += "/" + string([]byte{byte('a' + d.below(3))})
	}
	return path + strings.Repeat("/", d.below(2))
}

// node is a file or a directory of the model.
type node struct {
	n, kind, links int
	data           []byte
	names          map[string]*node
}

// model is a tree in memory, and the files in use that it has no more.
type model struct {
	inodes int // how many there can be
	nodes  map[int]*node
}

func makeModel(inodes int) *model {
	m := &model{inodes: inodes, nodes: map[int]*node{}}
	m.alloc(api.InodeDir).links = 1
	return m
}

// alloc is a new node, of the least number that is free.
func (m *model) alloc(kind int) *node {
	for n := 1; n <= m.inodes; n++ {
		if m.nodes[n] == nil {
			m.nodes[n] = &node{n: n, kind: kind, names: map[string]*node{}}
			return m.nodes[n]
		}
	}
	return nil
}

func parts(path string) ([]string, api.Errno) {
	names := slices.DeleteFunc(strings.Split(path, "/"), func(s string) bool { return s == "" })
	if path == "" || path[0] != '/' || len(path) > 64 || slices.ContainsFunc(names, func(s string) bool { return len(s) > 14 }) {
		return nil, api.ErrPath
	}
	return names, api.OK
}

func (m *model) follow(names []string) (*node, api.Errno) {
	at := m.nodes[1]
	for _, name := range names {
		if at.kind != api.InodeDir {
			return nil, api.ErrDir
		}
		at = at.names[name]
		if at == nil {
			return nil, api.ErrNone
		}
	}
	return at, api.OK
}

func (m *model) walk(path string) (*node, api.Errno) {
	names, e := parts(path)
	if e != api.OK {
		return nil, e
	}
	return m.follow(names)
}

func (m *model) parent(path string) (*node, string, api.Errno) {
	names, e := parts(path)
	if e != api.OK || len(names) == 0 {
		return nil, "", api.ErrPath
	}
	dir, e := m.follow(names[:len(names)-1])
	if e == api.OK && dir.kind != api.InodeDir {
		e = api.ErrDir
	}
	return dir, names[len(names)-1], e
}

func (m *model) create(path string, kind int) (int, api.Errno) {
	dir, name, e := m.parent(path)
	if e != api.OK {
		return 0, e
	}
	if dir.names[name] != nil {
		return 0, api.ErrExist
	}
	x := m.alloc(kind)
	if x == nil {
		return 0, api.ErrSpace
	}
	x.links = 1
	dir.names[name] = x
	return x.n, api.OK
}

func (m *model) link(a, b string) api.Errno {
	x, e := m.walk(a)
	if e != api.OK {
		return e
	}
	if x.kind == api.InodeDir {
		return api.ErrIsDir
	}
	dir, name, e := m.parent(b)
	if e != api.OK {
		return e
	}
	if dir.names[name] != nil {
		return api.ErrExist
	}
	dir.names[name] = x
	x.links++
	return api.OK
}

// drop lets a node have a name fewer: what Unlink and Rename tell.
func (m *model) drop(x *node) (int, int) {
	if x.kind == api.InodeDir {
		delete(m.nodes, x.n)
		return x.n, 0
	}
	x.links--
	return x.n, x.links
}

func (m *model) unlink(path string) (int, int, api.Errno) {
	dir, name, e := m.parent(path)
	if e != api.OK {
		return 0, 0, e
	}
	x := dir.names[name]
	if x == nil {
		return 0, 0, api.ErrNone
	}
	if len(x.names) > 0 {
		return 0, 0, api.ErrNotEmpty
	}
	delete(dir.names, name)
	n, links := m.drop(x)
	return n, links, api.OK
}

func (m *model) rename(a, b string) (int, int, api.Errno) {
	from, name, e := m.parent(a)
	if e != api.OK {
		return 0, 0, e
	}
	x := from.names[name]
	if x == nil {
		return 0, 0, api.ErrNone
	}
	to, other, e := m.parent(b)
	if e != api.OK {
		return 0, 0, e
	}
	y := to.names[other]
	switch {
	case x.kind == api.InodeDir && m.has(x, to):
		return 0, 0, api.ErrLoop
	case x == y:
		return 0, 0, api.OK
	case y != nil && x.kind == api.InodeDir && y.kind != api.InodeDir:
		return 0, 0, api.ErrDir
	case y != nil && x.kind != api.InodeDir && y.kind == api.InodeDir:
		return 0, 0, api.ErrIsDir
	case y != nil && len(y.names) > 0:
		return 0, 0, api.ErrNotEmpty
	}
	n, links := 0, 0
	if y != nil {
		n, links = m.drop(y)
	}
	to.names[other] = x
	delete(from.names, name)
	return n, links, api.OK
}

// has tells whether a directory is another one, or has it somewhere below.
func (m *model) has(x, y *node) bool {
	if x == y {
		return true
	}
	for _, z := range x.names {
		if m.has(z, y) {
			return true
		}
	}
	return false
}

// file is a node whose bytes may be written, but for their number.
func (m *model) file(n, end int) (*node, api.Errno) {
	x := m.nodes[n]
	switch {
	case x == nil:
		return nil, api.ErrInode
	case x.kind == api.InodeDir:
		return nil, api.ErrIsDir
	case end > api.MaxFileSize:
		return nil, api.ErrRange
	}
	return x, api.OK
}

func (m *model) write(n, at int, b []byte) api.Errno {
	x, e := m.file(n, at+len(b))
	if e != api.OK {
		return e
	}
	if more := at + len(b) - len(x.data); more > 0 {
		x.data = append(x.data, make([]byte, more)...)
	}
	copy(x.data[at:], b)
	return api.OK
}

func (m *model) truncate(n, size int) api.Errno {
	x, e := m.file(n, size)
	if e != api.OK {
		return e
	}
	x.data = append(x.data, make([]byte, max(0, size-len(x.data)))...)[:size]
	return api.OK
}

func (m *model) release(n int) (bool, api.Errno) {
	if n < 1 || n > m.inodes {
		return false, api.ErrInode
	}
	x := m.nodes[n]
	if x == nil || x.kind == api.InodeDir || x.links > 0 {
		return false, api.OK
	}
	delete(m.nodes, n)
	return true, api.OK
}

func (m *model) items() []api.Item {
	var l []api.Item
	var find func(path string, x *node)
	find = func(path string, x *node) {
		l = append(l, api.Item{Path: path, Inode: x.n, Kind: x.kind, Links: x.links, Data: string(x.data)})
		for name, y := range x.names {
			find(strings.TrimSuffix(path, "/")+"/"+name, y)
		}
	}
	find("/", m.nodes[1])
	slices.SortFunc(l, func(a, b api.Item) int { return strings.Compare(a.Path, b.Path) })
	return l
}

func (m *model) orphans() []int {
	var l []int
	for _, n := range slices.Sorted(maps.Keys(m.nodes)) {
		if m.nodes[n].links == 0 {
			l = append(l, n)
		}
	}
	return l
}

// clone is another one that is the same.
func (m *model) clone() *model {
	c := &model{inodes: m.inodes, nodes: map[int]*node{}}
	for n, x := range m.nodes {
		y := *x
		y.data, y.names = bytes.Clone(x.data), map[string]*node{}
		c.nodes[n] = &y
	}
	for n, x := range m.nodes {
		for name, y := range x.names {
			c.nodes[n].names[name] = c.nodes[y.n]
		}
	}
	return c
}

// told is what a call has told.
type told struct {
	n, links int
	ok       bool
	e        api.Errno
}

// act is an operation of both.
type act struct {
	name  string
	real  func(*fsop.FS) told
	model func(*model) told
}

func first(n int, e api.Errno) told {
	return told{n: n, e: e}
}

func both(n, links int, e api.Errno) told {
	return told{n: n, links: links, e: e}
}

func flag(ok bool, e api.Errno) told {
	return told{ok: ok, e: e}
}

// act is one by dice, which writes so many bytes at most.
func (d *dice) act(most int) act {
	a, b, n := d.path(), d.path(), d.below(18)
	at, data := d.below(most), bytes.Repeat([]byte{byte(d.below(256))}, d.below(most))
	if d.below(10) == 0 {
		at += api.MaxFileSize - most
	}
	switch d.below(12) {
	case 0, 1:
		return act{"Create " + a, func(f *fsop.FS) told { return first(f.Create(a)) }, func(m *model) told { return first(m.create(a, api.InodeFile)) }}
	case 2, 3:
		return act{"Mkdir " + a, func(f *fsop.FS) told { return first(f.Mkdir(a)) }, func(m *model) told { return first(m.create(a, api.InodeDir)) }}
	case 4:
		return act{"Link " + a + " " + b, func(f *fsop.FS) told { return first(0, f.Link(a, b)) }, func(m *model) told { return first(0, m.link(a, b)) }}
	case 5:
		return act{"Unlink " + a, func(f *fsop.FS) told { return both(f.Unlink(a)) }, func(m *model) told { return both(m.unlink(a)) }}
	case 6, 7, 8:
		return act{"Rename " + a + " " + b, func(f *fsop.FS) told { return both(f.Rename(a, b)) }, func(m *model) told { return both(m.rename(a, b)) }}
	case 9:
		return act{"Write", func(f *fsop.FS) told { return first(0, f.Write(n, at, data)) }, func(m *model) told { return first(0, m.write(n, at, data)) }}
	case 10:
		return act{"Truncate", func(f *fsop.FS) told { return first(0, f.Truncate(n, at)) }, func(m *model) told { return first(0, m.truncate(n, at)) }}
	}
	return act{"Release", func(f *fsop.FS) told { return flag(f.Release(n)) }, func(m *model) told { return flag(m.release(n)) }}
}

// do does an operation on both, a commit where it must wait, and tells how it went. Where space is tight ErrSpace is right, if nothing has changed.
func do(t *testing.T, f *fsop.FS, m *model, x act, tight bool) api.Errno {
	t.Helper()
	was, dirty := image(t, f), f.Log().Dirty()
	got := x.real(f)
	if got.e == api.ErrWait {
		same(t, f, x.name, was, dirty)
		commits(t, f)
		dirty = nil
		if got = x.real(f); got.e == api.ErrWait {
			t.Fatal(x.name, "ErrWait behind a commit")
		}
	}
	if got.e != api.OK {
		same(t, f, x.name, was, dirty)
	}
	if tight && got == (told{e: api.ErrSpace}) {
		return got.e
	}
	if want := x.model(m); got != want {
		t.Fatal(x.name, got, "not", want)
	}
	return got.e
}

func same(t *testing.T, f *fsop.FS, name string, was []byte, dirty []int) {
	t.Helper()
	if !bytes.Equal(image(t, f), was) || !slices.Equal(f.Log().Dirty(), dirty) {
		t.Fatal(name, "was refused, and has changed something")
	}
}

// hold holds a file system against its model.
func hold(t *testing.T, r *dice, f *fsop.FS, m *model) {
	t.Helper()
	has(t, f, m.items()...)
	orphans(t, f, m.orphans()...)
	for range 3 {
		path := r.path()
		x, want := m.walk(path)
		n, e := f.Walk(path)
		if e != want || x != nil && n != x.n || x == nil && n != 0 {
			t.Errorf("Walk %q: %d, %d, not %v, %d", path, n, e, x, want)
		}
	}
	// What is kept is what directories say.
	for _, k := range f.Names().Kept() {
		n, _ := f.Names().Look(k)
		if want, _ := dirent.Find(f.Log(), f.Layout(), k.Dir, k.Name); n != want {
			t.Error("Look", k, n, "not", want)
		}
	}
	n := r.below(18)
	if x, e := f.Stat(n); e == api.OK {
		y := m.nodes[n]
		if y == nil {
			y = &node{}
		}
		if x.Kind != y.kind || x.Links != y.links || x.Kind == api.InodeFile && x.Size != len(y.data) {
			t.Error("Stat", n, x)
		}
		if x.Kind == api.InodeFile {
			reads(t, f, n, string(y.data)) // an orphan's, too
		}
	}
	if t.Failed() {
		t.FailNow()
	}
}

// P20.8: behind every operation all agrees, and Items tells what a tree in memory is.
func TestAgainstModel(t *testing.T) {
	r, ends := dice(20), map[api.Errno]int{}
	for _, x := range []struct {
		l     api.Layout
		most  int
		tight bool
	}{
		{api.Layout{Sectors: 400, Log: 200, Inodes: 16}, 2000, false},
		{api.Layout{Sectors: 200, Log: 40, Inodes: 500}, 300, false},
		{api.Layout{Sectors: 100, Log: 20, Inodes: 8}, 300, false},
		{api.Layout{Sectors: 40, Log: 20, Inodes: 12}, 3000, true},
		{api.Layout{Sectors: 100, Log: 4, Inodes: 16}, 1000, true},
		{api.Layout{Sectors: 24, Log: 6, Inodes: 16}, 1500, true},
	} {
		for range 3 {
			f, m := make2(t, x.l), makeModel(x.l.Inodes)
			for range 400 {
				ends[do(t, f, m, r.act(x.most), x.tight)]++
				hold(t, &r, f, m)
			}
		}
	}
	for _, e := range []api.Errno{api.OK, api.ErrPath, api.ErrDir, api.ErrNone, api.ErrExist, api.ErrIsDir, api.ErrNotEmpty, api.ErrLoop, api.ErrInode, api.ErrRange, api.ErrSpace} {
		if ends[e] < 5 {
			t.Error("hardly ever:", e, ends[e])
		}
	}
}

// R4: the same calls tell the same, and leave the same bytes.
func TestTheSameAgain(t *testing.T) {
	play := func() []byte {
		r := dice(204)
		f, m := make1(t), makeModel(example.Inodes)
		for range 200 {
			do(t, f, m, r.act(500), false)
		}
		commits(t, f)
		return f.Log().Disk().Image()
	}
	if !bytes.Equal(play(), play()) {
		t.Error("other bytes")
	}
}

// R1: whatever bytes a volume has.
func TestNothingPanics(t *testing.T) {
	r := dice(201)
	for range 400 {
		f := tree(t)
		f.Log().Commit()
		for range 1 + r.below(6) {
			block := []int{inodeBlock, inodeBlock, inodeBlock + 1, bitmapBlock, firstData, firstData + 1, firstData + 2}[r.below(7)]
			pokes(t, f, block, r.below(size), byte(r.below(1+r.below(256))))
		}
		for range 6 {
			x := r.act(500)
			was, dirty := image(t, f), f.Log().Dirty()
			if e := x.real(f).e; e != api.OK {
				same(t, f, x.name, was, dirty)
			}
			f.Items()
			f.Orphans()
			f.Check()
		}
		f.Log().Commit()
		d := f.Log().Disk()
		d.Crash(nil)
		if f, n, e := fsop.Mount(d, domain(t), 9); e == api.OK {
			f.Items()
		} else if f != nil || n != 0 {
			t.Error("Mount", f, n, e)
		}
	}
}
