package fsop_test

import (
	"bytes"
	"fmt"
	"math"
	"slices"
	"strings"
	"testing"

	"parapet/api"
	"parapet/disk"
	"parapet/fsop"
	"parapet/inode"
	"parapet/rcu"
	"parapet/wlog"
)

const size = api.SectorSize

// example has inodes in blocks 33 and 34, the bitmap in block 35, data from 36 on.
var example = api.Layout{Sectors: 128, Log: 32, Inodes: 16}

const (
	inodeBlock  = 33
	bitmapBlock = 35
	firstData   = 36
)

func domain(t *testing.T) *rcu.Domain {
	t.Helper()
	r, e := rcu.New(1)
	if e != api.OK {
		t.Fatal("rcu.New", e)
	}
	return r
}

// makeDisk is a disk none of whose sectors is zeros.
func makeDisk(t *testing.T, count int) *disk.Disk {
	t.Helper()
	d, e := disk.Load(bytes.Repeat([]byte{'~'}, count*size))
	if e != api.OK {
		t.Fatal("Load", e)
	}
	return d
}

func make1(t *testing.T) *fsop.FS {
	t.Helper()
	return make2(t, example)
}

func make2(t *testing.T, l api.Layout) *fsop.FS {
	t.Helper()
	f, e := fsop.Format(makeDisk(t, l.Sectors), l, domain(t), 64)
	if e != api.OK || f == nil {
		t.Fatal("Format", l, f, e)
	}
	return f
}

// mounts finds the file system of a disk, where so many orphans are.
func mounts(t *testing.T, d *disk.Disk, want int) *fsop.FS {
	t.Helper()
	f, n, e := fsop.Mount(d, domain(t), 64)
	if n != want || e != api.OK || f == nil {
		t.Fatal("Mount", f, n, e, "not", want)
	}
	if l := f.Log().Dirty(); len(l) != 0 {
		t.Error("Dirty behind a Mount", l)
	}
	agrees(t, f)
	orphans(t, f)
	return f
}

func agrees(t *testing.T, f *fsop.FS) {
	t.Helper()
	if e := f.Check(); e != api.OK {
		t.Error("Check", e)
	}
}

func commits(t *testing.T, f *fsop.FS) {
	t.Helper()
	if _, e := f.Log().Commit(); e != api.OK {
		t.Error("Commit", e)
	}
}

// reopened is the file system behind a commit, and a crash.
func reopened(t *testing.T, f *fsop.FS, orphans int) *fsop.FS {
	t.Helper()
	commits(t, f)
	d := f.Log().Disk()
	d.Crash(nil)
	return mounts(t, d, orphans)
}

func orphans(t *testing.T, f *fsop.FS, want ...int) {
	t.Helper()
	if l, e := f.Orphans(); !slices.Equal(l, want) || e != api.OK {
		t.Error("Orphans", l, e, "not", want)
	}
}

func creates(t *testing.T, f *fsop.FS, path string, want int) {
	t.Helper()
	if n, e := f.Create(path); n != want || e != api.OK {
		t.Errorf("Create %q: %d, %d, not %d", path, n, e, want)
	}
}

func mkdirs(t *testing.T, f *fsop.FS, path string, want int) {
	t.Helper()
	if n, e := f.Mkdir(path); n != want || e != api.OK {
		t.Errorf("Mkdir %q: %d, %d, not %d", path, n, e, want)
	}
}

func links(t *testing.T, f *fsop.FS, a, b string) {
	t.Helper()
	if e := f.Link(a, b); e != api.OK {
		t.Errorf("Link %q %q: %d", a, b, e)
	}
}

func unlinks(t *testing.T, f *fsop.FS, path string, n, left int) {
	t.Helper()
	if x, y, e := f.Unlink(path); x != n || y != left || e != api.OK {
		t.Errorf("Unlink %q: %d, %d, %d, not %d, %d", path, x, y, e, n, left)
	}
}

func renames(t *testing.T, f *fsop.FS, a, b string, n, left int) {
	t.Helper()
	if x, y, e := f.Rename(a, b); x != n || y != left || e != api.OK {
		t.Errorf("Rename %q %q: %d, %d, %d, not %d, %d", a, b, x, y, e, n, left)
	}
}

func writes(t *testing.T, f *fsop.FS, n, at int, s string) {
	t.Helper()
	if e := f.Write(n, at, []byte(s)); e != api.OK {
		t.Error("Write", n, at, len(s), e)
	}
}

func reads(t *testing.T, f *fsop.FS, n int, want string) {
	t.Helper()
	if b, e := f.Read(n, 0, api.MaxFileSize); string(b) != want || e != api.OK {
		t.Errorf("Read %d: %.500q, %d", n, b, e)
	}
}

func releases(t *testing.T, f *fsop.FS, n int, want bool) {
	t.Helper()
	if ok, e := f.Release(n); ok != want || e != api.OK {
		t.Error("Release", n, ok, e)
	}
}

func walks(t *testing.T, f *fsop.FS, path string, want int) {
	t.Helper()
	if n, e := f.Walk(path); n != want || e != api.OK {
		t.Errorf("Walk %q: %d, %d, not %d", path, n, e, want)
	}
}

func stats(t *testing.T, f *fsop.FS, n, kind, links int) {
	t.Helper()
	if x, e := f.Stat(n); x.Kind != kind || x.Links != links || e != api.OK {
		t.Error("Stat", n, x, e)
	}
}

// puts writes an inode behind the file system's back.
func puts(t *testing.T, f *fsop.FS, n int, x api.Inode) {
	t.Helper()
	if e := inode.Put(f.Log(), f.Layout(), n, x); e != api.OK {
		t.Error("Put", n, x, e)
	}
}

// pokes writes a byte behind the file system's back.
func pokes(t *testing.T, f *fsop.FS, block, at int, x byte) {
	t.Helper()
	b, e := f.Log().Read(block)
	if e != api.OK {
		t.Fatal("Read", block, e)
	}
	b[at] = x
	if e := f.Log().Write(block, b); e != api.OK {
		t.Fatal("Write", block, e)
	}
}

// has holds what has a path.
func has(t *testing.T, f *fsop.FS, want ...api.Item) {
	t.Helper()
	if l, e := f.Items(); !slices.Equal(l, want) || e != api.OK {
		t.Errorf("Items %.2000s, %d, not %.2000s", fmt.Sprint(l), e, fmt.Sprint(want))
	}
	agrees(t, f)
}

func rootItem() api.Item {
	return api.Item{Path: "/", Inode: 1, Kind: api.InodeDir, Links: 1}
}

func dirItem(path string, n int) api.Item {
	return api.Item{Path: path, Inode: n, Kind: api.InodeDir, Links: 1}
}

func fileItem(path string, n, links int, data string) api.Item {
	return api.Item{Path: path, Inode: n, Kind: api.InodeFile, Links: links, Data: data}
}

// image is all blocks as the log reads them.
func image(t *testing.T, f *fsop.FS) []byte {
	t.Helper()
	all := make([]byte, 0, f.Layout().Sectors*size)
	for n := range f.Layout().Sectors {
		if n >= 1 && n <= f.Layout().Log {
			continue
		}
		b, e := f.Log().Read(n)
		if e != api.OK {
			t.Fatal("Read", n, e)
		}
		all = append(all, b...)
	}
	return all
}

// answer is what a call has answered: its error, and whether there is nothing beside it.
type answer struct {
	nothing bool
	e       api.Errno
}

func number(n int, e api.Errno) answer {
	return answer{n == 0, e}
}

func numbers(n, m int, e api.Errno) answer {
	return answer{n == 0 && m == 0, e}
}

func just(e api.Errno) answer {
	return answer{true, e}
}

// refused holds that a call is refused, tells nothing beside, and has changed nothing.
func refused(t *testing.T, f *fsop.FS, want api.Errno, what string, do func() answer) {
	t.Helper()
	was, dirty := image(t, f), f.Log().Dirty()
	waiting := f.Log().Begin() != api.OK || f.Log().End() != api.OK
	if x := do(); x != (answer{true, want}) {
		t.Errorf("%s: %v, not %d", what, x, want)
	}
	if !bytes.Equal(image(t, f), was) || !slices.Equal(f.Log().Dirty(), dirty) {
		t.Errorf("%s: something has changed", what)
	}
	if !waiting && (f.Log().Begin() != api.OK || f.Log().End() != api.OK) {
		t.Errorf("%s: an operation is not over", what)
	}
}

func noCreate(t *testing.T, f *fsop.FS, path string, want api.Errno) {
	t.Helper()
	refused(t, f, want, "Create "+path, func() answer { return number(f.Create(path)) })
	refused(t, f, want, "Mkdir "+path, func() answer { return number(f.Mkdir(path)) })
}

func noLink(t *testing.T, f *fsop.FS, a, b string, want api.Errno) {
	t.Helper()
	refused(t, f, want, "Link "+a+" "+b, func() answer { return just(f.Link(a, b)) })
}

func noUnlink(t *testing.T, f *fsop.FS, path string, want api.Errno) {
	t.Helper()
	refused(t, f, want, "Unlink "+path, func() answer { return numbers(f.Unlink(path)) })
}

func noRename(t *testing.T, f *fsop.FS, a, b string, want api.Errno) {
	t.Helper()
	refused(t, f, want, "Rename "+a+" "+b, func() answer { return numbers(f.Rename(a, b)) })
}

// Example 1.
func TestExample(t *testing.T) {
	f := make1(t)
	creates(t, f, "/a", 2)
	mkdirs(t, f, "/d", 3)
	renames(t, f, "/a", "/d/b", 0, 0)
	noUnlink(t, f, "/d", api.ErrNotEmpty)
	unlinks(t, f, "/d/b", 2, 0)
	orphans(t, f, 2)
	releases(t, f, 2, true)
	orphans(t, f)
	agrees(t, f)
	has(t, f, rootItem(), dirItem("/d", 3))
}

// P20.1

func TestFormat(t *testing.T) {
	d := makeDisk(t, example.Sectors)
	d.Write(99, bytes.Repeat([]byte{'p'}, size)) // pending
	r := domain(t)
	f, e := fsop.Format(d, example, r, 5)
	if e != api.OK {
		t.Fatal("Format", e)
	}
	if f.Layout() != example || f.Log().Disk() != d || f.Log().Generation() != 0 || f.Log().Room() != 31 || len(f.Log().Dirty()) != 0 || len(f.Names().Kept()) != 0 {
		t.Error("Layout, Log, Names", f.Layout(), f.Log().Generation(), f.Log().Room())
	}
	if l := d.Pending(); len(l) != 0 {
		t.Error("Pending", l)
	}
	// What the chapters below tell, and nothing else.
	want := makeDisk(t, example.Sectors)
	inode.Format(want, example)
	inode.Put(want, example, 1, api.Inode{Kind: api.InodeDir, Links: 1})
	head, _ := wlog.Header(0, nil)
	want.Write(1, head)
	want.Write(99, bytes.Repeat([]byte{'p'}, size))
	want.Flush()
	if !bytes.Equal(d.Image(), want.Image()) {
		t.Error("other bytes")
	}
	has(t, f, rootItem())
	orphans(t, f)
	if len(r.Waiting()) != 0 {
		t.Error("Waiting", r.Waiting())
	}
	// The cache has the room, and the domain.
	for _, path := range []string{"/a", "/b", "/c", "/d", "/e", "/f"} {
		f.Walk(path)
	}
	if len(f.Names().Kept()) != 5 || !slices.Equal(r.Waiting(), []int{1}) {
		t.Error("Kept", f.Names().Kept(), "Waiting", r.Waiting())
	}
}

func TestFormatLasts(t *testing.T) {
	f := make1(t)
	d := f.Log().Disk()
	d.Crash(nil)
	has(t, mounts(t, d, 0), rootItem())
}

func layoutsThatMayNotBe() []api.Layout {
	return []api.Layout{
		{}, {Sectors: 128, Log: 32}, {Sectors: 128, Log: 3, Inodes: 16}, {Sectors: 128, Log: 249, Inodes: 16}, {Sectors: 128, Log: 32, Inodes: 1}, {Sectors: 128, Log: 32, Inodes: 513},
		{Sectors: 128, Log: 124, Inodes: 16}, {Sectors: 15, Log: 4, Inodes: 2}, {Sectors: 4097, Log: 32, Inodes: 16}, {Sectors: math.MinInt, Log: math.MaxInt, Inodes: -1},
	}
}

func TestFormatOfWhatMayNotBe(t *testing.T) {
	r := domain(t)
	refuses := func(d *disk.Disk, l api.Layout, r *rcu.Domain, room int, want api.Errno) {
		t.Helper()
		was := d.Image()
		if f, e := fsop.Format(d, l, r, room); f != nil || e != want {
			t.Error("Format", d.Count(), l, room, f, e, "not", want)
		}
		if !bytes.Equal(d.Image(), was) || len(d.Pending()) != 0 {
			t.Error("the disk has changed")
		}
	}
	for _, l := range []api.Layout{example, {Sectors: 64, Log: 32, Inodes: 16}} {
		refuses(nil, l, r, 64, api.ErrArg)
		refuses(&disk.Disk{}, l, r, 64, api.ErrArg)
		refuses(makeDisk(t, 128), l, nil, 64, api.ErrArg)
		for _, room := range []int{math.MinInt, -1, 0, 4097, math.MaxInt} {
			refuses(makeDisk(t, 128), l, r, room, api.ErrArg)
		}
	}
	for _, l := range layoutsThatMayNotBe() {
		refuses(makeDisk(t, 128), l, r, 64, api.ErrArg)
	}
	for _, count := range []int{1, 16, 127, 129, 4096} {
		refuses(makeDisk(t, count), example, r, 64, api.ErrVolume)
	}
}

func TestGreatestAndLeastFormat(t *testing.T) {
	for _, l := range []api.Layout{{Sectors: 16, Log: 4, Inodes: 2}, {Sectors: 16, Log: 12, Inodes: 2}, {Sectors: 4096, Log: 248, Inodes: 512}, {Sectors: 128, Log: 123, Inodes: 16}} {
		for _, room := range []int{1, 4096} {
			f, e := fsop.Format(makeDisk(t, l.Sectors), l, domain(t), room)
			if e != api.OK {
				t.Fatal("Format", l, e)
			}
			creates(t, f, "/a", 2)
			has(t, reopened(t, f, 0), rootItem(), fileItem("/a", 2, 1, ""))
		}
	}
}

func TestMountOfWhatMayNotBe(t *testing.T) {
	r := domain(t)
	f := make1(t)
	creates(t, f, "/a", 2)
	commits(t, f)
	image := f.Log().Disk().Image()
	load := func(image []byte) *disk.Disk {
		d, _ := disk.Load(image)
		return d
	}
	refuses := func(d *disk.Disk, r *rcu.Domain, room int, want api.Errno) {
		t.Helper()
		was := d.Image()
		if f, n, e := fsop.Mount(d, r, room); f != nil || n != 0 || e != want {
			t.Error("Mount", d.Count(), room, f, n, e, "not", want)
		}
		if !bytes.Equal(d.Image(), was) || len(d.Pending()) != 0 {
			t.Error("the disk has changed")
		}
	}
	refuses(nil, r, 64, api.ErrArg)
	refuses(&disk.Disk{}, r, 64, api.ErrArg)
	for _, b := range [][]byte{image, bytes.Repeat([]byte{'~'}, 16*size)} {
		refuses(load(b), nil, 64, api.ErrArg)
		for _, room := range []int{math.MinInt, -1, 0, 4097, math.MaxInt} {
			refuses(load(b), r, room, api.ErrArg)
		}
	}
	refuses(makeDisk(t, 128), r, 64, api.ErrVolume)
	refuses(load(make([]byte, 128*size)), r, 64, api.ErrVolume)
	refuses(load(image[:127*size]), r, 64, api.ErrVolume)
	refuses(load(append(bytes.Clone(image), make([]byte, size)...)), r, 64, api.ErrVolume)
	refuses(load(image[:size]), r, 64, api.ErrVolume)
	for at := range 16 {
		b := bytes.Clone(image)
		b[at] ^= 0x80
		refuses(load(b), r, 64, api.ErrVolume)
	}
	// One whose log is not empty is refused ahead of that.
	head, _ := wlog.Header(7, []int{40})
	copy(image[size:], head)
	refuses(load(append(bytes.Clone(image), make([]byte, size)...)), r, 64, api.ErrVolume)
}

// A mount recovers the log.
func TestMountRecovers(t *testing.T) {
	for steps := range 30 {
		f := make1(t)
		creates(t, f, "/a", 2)
		commits(t, f)
		mkdirs(t, f, "/d", 3)
		creates(t, f, "/d/b", 4)
		n := len(f.Log().Dirty())
		f.Log().Start()
		for range steps {
			f.Log().Step()
		}
		d := f.Log().Disk()
		d.Crash(nil)
		f = mounts(t, d, 0)
		if f.Layout() != example || f.Log().Disk() != d || len(f.Names().Kept()) != 0 {
			t.Error("Layout, Log, Names", f.Layout())
		}
		want := []api.Item{rootItem(), fileItem("/a", 2, 1, "")}
		if steps >= n+3 {
			want = append(want, dirItem("/d", 3), fileItem("/d/b", 4, 1, ""))
		}
		has(t, f, want...)
	}
}

func TestMountFreesOrphans(t *testing.T) {
	f := make1(t)
	for i, path := range []string{"/a", "/b", "/c", "/d"} {
		creates(t, f, path, 2+i)
		writes(t, f, 2+i, 0, strings.Repeat(path, 300))
	}
	unlinks(t, f, "/a", 2, 0)
	unlinks(t, f, "/c", 4, 0)
	orphans(t, f, 2, 4)
	f = reopened(t, f, 2)
	has(t, f, rootItem(), fileItem("/b", 3, 1, strings.Repeat("/b", 300)), fileItem("/d", 5, 1, strings.Repeat("/d", 300)))
	stats(t, f, 2, api.InodeFree, 0)
	stats(t, f, 4, api.InodeFree, 0)
	// They were freed for good.
	d := f.Log().Disk()
	d.Crash(nil)
	f = mounts(t, d, 0)
	creates(t, f, "/e", 2)
	creates(t, f, "/f", 4)
}

// many has inodes in eight blocks, and a log with room for three.
var many = api.Layout{Sectors: 256, Log: 4, Inodes: 64}

// makeOrphans is a file system of that layout with orphans 2 to 60.
func makeOrphans(t *testing.T) *fsop.FS {
	t.Helper()
	f := make2(t, many)
	for n := 2; n <= 60; n++ {
		for _, do := range []func() api.Errno{
			func() api.Errno { _, e := f.Create("/f"); return e },
			func() api.Errno { return f.Write(n, 0, []byte("bytes")) },
			func() api.Errno { _, _, e := f.Unlink("/f"); return e },
		} {
			e := do()
			if e == api.ErrWait {
				commits(t, f)
				e = do()
			}
			if e != api.OK {
				t.Fatal(n, e)
			}
		}
	}
	commits(t, f)
	return f
}

// More orphans than one group has room for.
func TestMountOfManyOrphans(t *testing.T) {
	f := reopened(t, makeOrphans(t), 59)
	has(t, f, rootItem())
	if n, _ := inode.Used(f.Log(), many); n != 1 {
		t.Error("Used", n)
	}
	d := f.Log().Disk()
	d.Crash(nil)
	has(t, mounts(t, d, 0), rootItem())
}

// What reading refuses is told, and no orphan has been freed then.
func TestMountOfWhatCanNotBeRead(t *testing.T) {
	for name, spoil := range map[string]func(*fsop.FS){
		"an inode that may not be": func(f *fsop.FS) { pokes(t, f, 12, 4*64, 3) }, // inode 61, in the eighth block
		"an orphan whose numbers may not be": func(f *fsop.FS) {
			x, _ := f.Stat(60)
			x.Blocks[12] = x.Blocks[0]
			puts(t, f, 60, x)
		},
	} {
		f := makeOrphans(t)
		spoil(f)
		commits(t, f)
		d := f.Log().Disk()
		was := d.Image()
		if f, n, e := fsop.Mount(d, domain(t), 64); f != nil || n != 0 || e != api.ErrInode {
			t.Error("Mount of", name, f, n, e)
		}
		if !bytes.Equal(d.Image(), was) {
			t.Error("the disk has changed:", name)
		}
	}
}

// P20.7

func TestNone(t *testing.T) {
	for _, f := range []*fsop.FS{nil, {}} {
		if f.Layout() != (api.Layout{}) || f.Log() != nil || f.Names() != nil {
			t.Error("Layout, Log, Names")
		}
		x, e := f.Stat(1)
		b, e1 := f.Read(1, 0, 9)
		l, e2 := f.Orphans()
		m, e3 := f.Items()
		ok, e4 := f.Release(2)
		if x != (api.Inode{}) || b != nil || l != nil || m != nil || ok || e != api.ErrClosed || e1 != e || e2 != e || e3 != e || e4 != e {
			t.Error("Stat, Read, Orphans, Items, Release", x, b, l, m, ok, e, e1, e2, e3, e4)
		}
		for _, path := range []string{"/a", "/", ""} {
			for _, a := range []answer{
				number(f.Walk(path)), number(f.Create(path)), number(f.Mkdir(path)), just(f.Link(path, "/b")), numbers(f.Unlink(path)), numbers(f.Rename(path, "/b")),
				just(f.Write(2, 0, []byte("b"))), just(f.Write(-1, -1, nil)), just(f.Truncate(2, 0)), just(f.Check()),
			} {
				if a != (answer{true, api.ErrClosed}) {
					t.Errorf("%q: %v", path, a)
				}
			}
		}
	}
}
