package fsop_test

import (
	"math"
	"slices"
	"strings"
	"testing"

	"parapet/api"
	"parapet/dirent"
	"parapet/fsop"
	"parapet/inode"
)

// tree is a file system with some of everything.
func tree(t *testing.T) *fsop.FS {
	t.Helper()
	f := make1(t)
	mkdirs(t, f, "/d", 2)
	creates(t, f, "/d/f", 3)
	mkdirs(t, f, "/d/e", 4)
	creates(t, f, "/g", 5)
	links(t, f, "/g", "/d/e/h")
	writes(t, f, 3, 0, "eff")
	writes(t, f, 5, 1, "gee")
	creates(t, f, "/o", 6)
	writes(t, f, 6, 0, "oh")
	unlinks(t, f, "/o", 6, 0)
	mkdirs(t, f, "/z", 7)
	return f
}

func treeItems() []api.Item {
	return []api.Item{
		rootItem(), dirItem("/d", 2), dirItem("/d/e", 4), fileItem("/d/e/h", 5, 2, "\x00gee"), fileItem("/d/f", 3, 1, "eff"), fileItem("/g", 5, 2, "\x00gee"), dirItem("/z", 7),
	}
}

// P20.2

func TestWalk(t *testing.T) {
	f := tree(t)
	for range 2 {
		walks(t, f, "/", 1)
		walks(t, f, "//d/", 2)
		walks(t, f, "/d/f", 3)
		walks(t, f, "/d/e/h", 5)
		for path, want := range map[string]api.Errno{"": api.ErrPath, "d": api.ErrPath, "/abcdefghijklmno": api.ErrPath, "/x": api.ErrNone, "/x/y": api.ErrNone, "/g/x": api.ErrDir, "/o": api.ErrNone} {
			refused(t, f, want, "Walk "+path, func() answer { return number(f.Walk(path)) })
		}
	}
	if n, ok := f.Names().Look(api.Name{Dir: 2, Name: "f"}); n != 3 || !ok {
		t.Error("Look", n, ok)
	}
	if n, ok := f.Names().Look(api.Name{Dir: 1, Name: "x"}); n != 0 || !ok {
		t.Error("Look", n, ok)
	}
}

func TestStat(t *testing.T) {
	f := tree(t)
	stats(t, f, 1, api.InodeDir, 1)
	stats(t, f, 5, api.InodeFile, 2)
	stats(t, f, 6, api.InodeFile, 0)
	stats(t, f, 8, api.InodeFree, 0)
	if x, _ := f.Stat(3); x != (api.Inode{Kind: api.InodeFile, Links: 1, Size: 3, Blocks: [13]int{x.Blocks[0]}}) || x.Blocks[0] < firstData {
		t.Error("Stat", x)
	}
	for _, n := range []int{math.MinInt, -1, 0, 17, math.MaxInt} {
		if x, e := f.Stat(n); x != (api.Inode{}) || e != api.ErrInode {
			t.Error("Stat", n, x, e)
		}
	}
}

func TestRead(t *testing.T) {
	f := tree(t)
	for _, x := range []struct {
		n, at, count int
		want         string
		e            api.Errno
	}{
		{3, 0, 9, "eff", api.OK}, {3, 1, 1, "f", api.OK}, {3, 3, 9, "", api.OK}, {3, 0, 0, "", api.OK}, {3, math.MaxInt, math.MaxInt, "", api.OK},
		{5, 0, math.MaxInt, "\x00gee", api.OK}, {6, 0, 2, "oh", api.OK}, {8, 0, 9, "", api.OK},
		{1, 0, 9, "", api.ErrIsDir}, {2, 0, 9, "", api.ErrIsDir}, {7, -1, -1, "", api.ErrIsDir},
		{3, -1, 2, "", api.ErrRange}, {3, 0, -1, "", api.ErrRange}, {8, -1, 0, "", api.ErrRange},
		{0, 0, 9, "", api.ErrInode}, {17, -1, 9, "", api.ErrInode}, {-1, 0, 9, "", api.ErrInode},
	} {
		b, e := f.Read(x.n, x.at, x.count)
		if string(b) != x.want || e != x.e || e != api.OK && b != nil {
			t.Errorf("Read %d %d %d: %q, %d", x.n, x.at, x.count, b, e)
		}
		clear(b[:cap(b)])
	}
	reads(t, f, 3, "eff")
}

func TestItems(t *testing.T) {
	f := tree(t)
	has(t, f, treeItems()...)
	l, _ := f.Items()
	clear(l[:cap(l)])
	has(t, f, treeItems()...)
	has(t, reopened(t, f, 1), treeItems()...)
}

// Paths rise as texts: a byte below that of a slash comes ahead of what is in a directory.
func TestItemsRise(t *testing.T) {
	f := make1(t)
	for i, path := range []string{"/b", "/a", "/a!", "/a/c", "/a0", "/a/b", "/a.", "/a!/z"} {
		if strings.HasSuffix(path, "a") || strings.HasSuffix(path, "!") {
			mkdirs(t, f, path, 2+i)
		} else {
			creates(t, f, path, 2+i)
		}
	}
	has(t, f, rootItem(), dirItem("/a", 3), dirItem("/a!", 4), fileItem("/a!/z", 9, 1, ""), fileItem("/a.", 8, 1, ""), fileItem("/a/b", 7, 1, ""), fileItem("/a/c", 5, 1, ""),
		fileItem("/a0", 6, 1, ""), fileItem("/b", 2, 1, ""))
}

// What was moved may have a path that may not be: it has one still.
func TestItemsOfLongPaths(t *testing.T) {
	f := make1(t)
	long := strings.Repeat("/abcdefg", 8) // 64 bytes
	for i := range 8 {
		mkdirs(t, f, long[:8*(i+1)], 2+i)
	}
	mkdirs(t, f, "/d", 10)
	renames(t, f, "/abcdefg", "/d/abcdefg", 0, 0)
	l, e := f.Items()
	if e != api.OK || len(l) != 10 || l[9] != dirItem("/d"+long, 9) {
		t.Error("Items", l, e)
	}
	agrees(t, f)
	if n, e := f.Walk("/d" + long); n != 0 || e != api.ErrPath {
		t.Error("Walk", n, e)
	}
	walks(t, f, "/d"+long[:56], 8)
}

// A file with many names and bytes.
func TestItemsOfManyNames(t *testing.T) {
	f := make1(t)
	creates(t, f, "/0", 2)
	data := strings.Repeat("0123456789abcdef", 1024)
	writes(t, f, 2, 0, data[:8192])
	commits(t, f)
	writes(t, f, 2, 8192, data[8192:])
	commits(t, f)
	want := []api.Item{rootItem(), fileItem("/0", 2, 9, data)}
	for i := 1; i < 9; i++ {
		path := "/" + string([]byte{byte('0' + i)})
		links(t, f, "/0", path)
		want = append(want, fileItem(path, 2, 9, data))
	}
	has(t, f, want...)
}

func TestOrphans(t *testing.T) {
	f := make1(t)
	orphans(t, f)
	for i, path := range []string{"/a", "/b", "/c", "/d", "/e", "/f", "/g", "/h"} {
		creates(t, f, path, 2+i)
	}
	for i, path := range []string{"/h", "/a", "/g"} {
		unlinks(t, f, path, []int{9, 2, 8}[i], 0)
	}
	orphans(t, f, 2, 8, 9)
	agrees(t, f)
	l, _ := f.Orphans()
	clear(l[:cap(l)])
	orphans(t, f, 2, 8, 9)
	releases(t, f, 8, true)
	orphans(t, f, 2, 9)
	// A directory without links is none.
	puts(t, f, 10, api.Inode{Kind: api.InodeDir})
	orphans(t, f, 2, 9)
}

func TestWhatCanNotBeRead(t *testing.T) {
	f := tree(t)
	pokes(t, f, inodeBlock+1, 0, 3) // inode 9 may not be, but nobody needs it
	if l, e := f.Items(); !slices.Equal(l, treeItems()) || e != api.OK {
		t.Error("Items", l, e)
	}
	if l, e := f.Orphans(); l != nil || e != api.ErrInode {
		t.Error("Orphans", l, e)
	}
	if e := f.Check(); e != api.ErrInode {
		t.Error("Check", e)
	}
	// An entry that names it.
	dirent.Add(f.Log(), example, 4, "nine", 9)
	if l, e := f.Items(); l != nil || e != api.ErrInode {
		t.Error("Items", l, e)
	}
	// What is told of several.
	pokes(t, f, inodeBlock+1, 0, 0)
	pokes(t, f, bitmapBlock, 15, 0xff)
	if e := f.Check(); e != api.ErrVolume {
		t.Error("Check", e)
	}
	inode.Write(f.Log(), example, 4, 16*64, []byte("no slot"))
	if e := f.Check(); e != api.ErrDirent {
		t.Error("Check", e)
	}
	if l, e := f.Items(); l != nil || e != api.ErrDirent {
		t.Error("Items", l, e)
	}
	// A word in a block for numbers.
	f = tree(t)
	writes(t, f, 3, 20*size, "far")
	x, _ := f.Stat(3)
	pokes(t, f, x.Blocks[12], 0, 255)
	if e := f.Check(); e != api.ErrInode {
		t.Error("Check", e)
	}
	if l, e := f.Items(); l != nil || e != api.ErrInode {
		t.Error("Items", l, e)
	}
}

// A path in a circle has no end.
func TestItemsInACircle(t *testing.T) {
	for _, x := range []struct{ dir, n int }{{4, 1}, {4, 2}, {4, 4}, {1, 2}, {2, 7}, {7, 2}} {
		f := tree(t)
		dirent.Add(f.Log(), example, x.dir, "again", x.n)
		if l, e := f.Items(); l != nil || e != api.ErrVolume {
			t.Error("Items", x, l, e)
		}
		if e := f.Check(); e != api.ErrVolume {
			t.Error("Check", x, e)
		}
	}
}

// Check finds whatever does not agree.
func TestCheck(t *testing.T) {
	for name, spoil := range map[string]func(*fsop.FS){
		"root is a file":       func(f *fsop.FS) { pokes(t, f, inodeBlock, 0, api.InodeFile) },
		"root is free":         func(f *fsop.FS) { inode.Free(f.Log(), example, 1) },
		"root without links":   func(f *fsop.FS) { pokes(t, f, inodeBlock, 2, 0) },
		"root with two links":  func(f *fsop.FS) { pokes(t, f, inodeBlock, 2, 2) },
		"root with an entry":   func(f *fsop.FS) { dirent.Add(f.Log(), example, 7, "x", 1) },
		"entry of a free one":  func(f *fsop.FS) { dirent.Add(f.Log(), example, 1, "x", 16) },
		"links of a directory": func(f *fsop.FS) { pokes(t, f, inodeBlock, 64+2, 2) },
		"directory with no links": func(f *fsop.FS) {
			pokes(t, f, inodeBlock, 64*6+2, 0)
			dirent.Remove(f.Log(), example, 1, "z")
		},
		"directory with no entry": func(f *fsop.FS) { dirent.Remove(f.Log(), example, 1, "z") },
		"directory with two entries": func(f *fsop.FS) {
			dirent.Add(f.Log(), example, 1, "zz", 7)
			pokes(t, f, inodeBlock, 64*6+2, 2)
		},
		"directory in itself": func(f *fsop.FS) {
			dirent.Remove(f.Log(), example, 1, "z")
			dirent.Add(f.Log(), example, 7, "z", 7)
		},
		"directories in one another": func(f *fsop.FS) {
			dirent.Remove(f.Log(), example, 1, "d")
			dirent.Add(f.Log(), example, 4, "d", 2)
		},
		"file with more links":  func(f *fsop.FS) { pokes(t, f, inodeBlock, 64*2+2, 2) },
		"file with fewer links": func(f *fsop.FS) { pokes(t, f, inodeBlock, 64*4+2, 1) },
		"file with 256 links":   func(f *fsop.FS) { pokes(t, f, inodeBlock, 64*2+3, 1) },
		"orphan with links":     func(f *fsop.FS) { pokes(t, f, inodeBlock, 64*5+2, 1) },
		"orphan with an entry":  func(f *fsop.FS) { dirent.Add(f.Log(), example, 7, "x", 6) },
		"block of two": func(f *fsop.FS) {
			x, _ := f.Stat(3)
			y, _ := f.Stat(5)
			x.Blocks[1] = y.Blocks[0]
			puts(t, f, 3, x)
		},
		"block twice of one": func(f *fsop.FS) {
			x, _ := f.Stat(3)
			x.Blocks[1] = x.Blocks[0]
			puts(t, f, 3, x)
		},
		"block that is for numbers, too": func(f *fsop.FS) {
			x, _ := f.Stat(3)
			x.Blocks[12] = x.Blocks[0]
			pokes(t, f, x.Blocks[0], 0, 0)
			pokes(t, f, x.Blocks[0], 1, 0)
			pokes(t, f, x.Blocks[0], 2, 0)
			puts(t, f, 3, x)
		},
		"used by nobody":    func(f *fsop.FS) { pokes(t, f, bitmapBlock, 15, 0x80) },
		"used, but free":    func(f *fsop.FS) { pokes(t, f, bitmapBlock, firstData/8, 0x0f) },
		"one for the other": func(f *fsop.FS) { pokes(t, f, bitmapBlock, firstData/8, 0xef); pokes(t, f, bitmapBlock, 15, 0x80) },
	} {
		f := tree(t)
		agrees(t, f)
		spoil(f)
		if e := f.Check(); e != api.ErrVolume {
			t.Error("Check", name, e)
		}
	}
}

// The bit of each data block counts.
func TestCheckOfEachBlock(t *testing.T) {
	f := tree(t)
	b, _ := f.Log().Read(bitmapBlock)
	for n := range example.Sectors {
		pokes(t, f, bitmapBlock, n/8, b[n/8]^1<<(n%8))
		want := api.ErrVolume
		if n < firstData {
			want = api.OK
		}
		if e := f.Check(); e != want {
			t.Error("Check", n, e)
		}
		pokes(t, f, bitmapBlock, n/8, b[n/8])
	}
	agrees(t, f)
}

// A root that is a file, beside nothing that it could lead to.
func TestCheckOfARootAlone(t *testing.T) {
	f := make1(t)
	pokes(t, f, inodeBlock, 0, api.InodeFile)
	if e := f.Check(); e != api.ErrVolume {
		t.Error("Check", e)
	}
}

// What is nobody's does not disagree.
func TestCheckOfWhatIsNobodys(t *testing.T) {
	f := tree(t)
	x, _ := f.Stat(3)
	old := x.Blocks[0]
	pokes(t, f, bitmapBlock, 16, 0xff)  // behind the disk's blocks
	pokes(t, f, bitmapBlock, 0, 0)      // ahead of the data blocks
	pokes(t, f, 127, 9, 9)              // a free block
	pokes(t, f, inodeBlock, 64*2+8, 60) // another block of the file: both bits change
	pokes(t, f, bitmapBlock, 60/8, 1<<(60%8))
	if x, _ := f.Stat(3); x.Blocks[0] != 60 {
		t.Error("Stat", x)
	}
	if e := f.Check(); e != api.ErrVolume {
		t.Error("Check", e)
	}
	b, _ := f.Log().Read(bitmapBlock)
	pokes(t, f, bitmapBlock, old/8, b[old/8]&^(1<<(old%8)))
	agrees(t, f)
}
