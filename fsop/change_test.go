package fsop_test

import (
	"math"
	"slices"
	"strings"
	"testing"

	"parapet/api"
	"parapet/dirent"
	"parapet/fsop"
	"parapet/inode"
)

// pathsThatMayNotBe are such, and the root, which is no name's.
var pathsThatMayNotBe = []string{"", "a", "d/f", "/\x00", "/abcdefghijklmno", "/d/abcdefghijklmno", "/abcdefghijklmno/x", strings.Repeat("/a", 33), "/", "//"}

// P20.3

func TestCreateAndMkdir(t *testing.T) {
	f := make1(t)
	creates(t, f, "/f", 2)
	mkdirs(t, f, "//d/", 3)
	creates(t, f, "/d/abcdefghijklmn", 4)
	mkdirs(t, f, "/d/d", 5)
	mkdirs(t, f, "/.", 6)
	creates(t, f, "/./..", 7)
	has(t, f, rootItem(), dirItem("/.", 6), fileItem("/./..", 7, 1, ""), dirItem("/d", 3), fileItem("/d/abcdefghijklmn", 4, 1, ""), dirItem("/d/d", 5), fileItem("/f", 2, 1, ""))
	// The least free inode.
	unlinks(t, f, "/d/d", 5, 0)
	creates(t, f, "/d/d", 5)
	x, _ := f.Stat(5)
	if x != (api.Inode{Kind: api.InodeFile, Links: 1}) {
		t.Error("Stat", x)
	}
	if l, e := dirent.List(f.Log(), example, 3); !slices.Equal(l, []api.Entry{{Name: "abcdefghijklmn", Inode: 4}, {Name: "d", Inode: 5}}) || e != api.OK {
		t.Error("List", l, e)
	}
	agrees(t, reopened(t, f, 0))
}

func TestCreateIsRefused(t *testing.T) {
	f := tree(t)
	for _, path := range pathsThatMayNotBe {
		noCreate(t, f, path, api.ErrPath)
	}
	for path, want := range map[string]api.Errno{
		"/x/y": api.ErrNone, "/d/x/y": api.ErrNone, "/g/x": api.ErrDir, "/d/f/x": api.ErrDir, "/g/x/y": api.ErrDir,
		"/d": api.ErrExist, "/g": api.ErrExist, "/d/e/h": api.ErrExist, "//d//f//": api.ErrExist,
	} {
		noCreate(t, f, path, want)
	}
	has(t, f, treeItems()...)
	// The orphan 6 is in use, as are the others; then there is none left.
	for n := 8; n <= 16; n++ {
		creates(t, f, "/z/"+string([]byte{byte('a' + n)}), n)
	}
	noCreate(t, f, "/x", api.ErrSpace)
	noCreate(t, f, "/d", api.ErrExist)
	noCreate(t, f, "/x/y", api.ErrNone)
	releases(t, f, 6, true)
	mkdirs(t, f, "/x", 6)
}

// Where reading refuses that is told.
func TestWhatReadingRefuses(t *testing.T) {
	f := tree(t)
	pokes(t, f, inodeBlock, 6*64, 9) // /z, inode 7, may not be
	noCreate(t, f, "/z/x", api.ErrInode)
	noLink(t, f, "/z", "/x", api.ErrInode)
	noLink(t, f, "/g", "/z/x", api.ErrInode)
	noUnlink(t, f, "/z", api.ErrInode)
	noRename(t, f, "/z", "/x", api.ErrInode)
	noRename(t, f, "/g", "/z", api.ErrInode)
	noRename(t, f, "/g", "/z/x", api.ErrInode)
	inode.Write(f.Log(), example, 4, 0, []byte("no slot"))
	noCreate(t, f, "/d/e/x", api.ErrDirent)
	noLink(t, f, "/g", "/d/e/x", api.ErrDirent)
	noUnlink(t, f, "/d/e/x", api.ErrDirent)
	noUnlink(t, f, "/d/e", api.ErrDirent)
	noRename(t, f, "/d/e/x", "/x", api.ErrDirent)
	noRename(t, f, "/g", "/d/e/x", api.ErrDirent)
	// That one lies in the other is told ahead of what is in it.
	noRename(t, f, "/d/e", "/d/e/x", api.ErrLoop)
}

// An entry whose inode is free.
func TestEntryOfAFreeInode(t *testing.T) {
	f := tree(t)
	dirent.Add(f.Log(), example, 1, "n", 16)
	noLink(t, f, "/n", "/x", api.ErrInode)
	noUnlink(t, f, "/n", api.ErrInode)
	noRename(t, f, "/g", "/n", api.ErrInode)
	noRename(t, f, "/d", "/n", api.ErrDir)
	renames(t, f, "/n", "/m", 0, 0)
}

// A directory has 1024 entries at most, and a disk so many blocks.
func TestDirectoryThatIsFull(t *testing.T) {
	l := api.Layout{Sectors: 256, Log: 100, Inodes: 16}
	f := make2(t, l)
	creates(t, f, "/f", 2)
	mkdirs(t, f, "/d", 3)
	var b []byte
	for i := range 1024 {
		slot := make([]byte, 16)
		slot[0], slot[2], slot[3], slot[4] = 2, byte('a'+i%26), byte('a'+i/26%26), byte('a'+i/26/26)
		b = append(b, slot...)
	}
	if e := inode.Write(f.Log(), l, 3, 0, b); e != api.OK {
		t.Fatal("Write", e)
	}
	x, _ := f.Stat(2)
	x.Links = 1025
	puts(t, f, 2, x)
	agrees(t, f)
	commits(t, f)
	noCreate(t, f, "/d/x", api.ErrRange)
	noLink(t, f, "/f", "/d/x", api.ErrRange)
	noRename(t, f, "/f", "/d/x", api.ErrRange)
	// The new entry comes ahead of the old one's going.
	noRename(t, f, "/d/aaa", "/d/x", api.ErrRange)
	renames(t, f, "/d/aaa", "/d/baa", 0, 0)
	unlinks(t, f, "/d/aaa", 2, 1024)
	renames(t, f, "/d/caa", "/d/x", 0, 0)
	agrees(t, f)
}

func TestDiskThatIsFull(t *testing.T) {
	l := api.Layout{Sectors: 64, Log: 32, Inodes: 16} // 28 data blocks
	f := make2(t, l)
	creates(t, f, "/f", 2)
	mkdirs(t, f, "/d", 3)
	writes(t, f, 2, 0, strings.Repeat("x", 12*size))
	commits(t, f)
	creates(t, f, "/g", 4)
	writes(t, f, 4, 0, strings.Repeat("y", 12*size))
	creates(t, f, "/h", 5)
	writes(t, f, 5, 0, strings.Repeat("z", 3*size))
	commits(t, f)
	if n, _ := inode.Used(f.Log(), l); n != 28 {
		t.Fatal("Used", n)
	}
	noCreate(t, f, "/d/x", api.ErrSpace)
	noLink(t, f, "/f", "/d/x", api.ErrSpace)
	noRename(t, f, "/f", "/d/x", api.ErrSpace)
	refused(t, f, api.ErrSpace, "Write", func() answer { return just(f.Write(4, 12*size, []byte("y"))) })
	creates(t, f, "/x", 6)
	renames(t, f, "/f", "/g", 4, 0)
	releases(t, f, 4, true)
	renames(t, f, "/g", "/d/g", 0, 0)
	agrees(t, reopened(t, f, 0))
}

func TestLink(t *testing.T) {
	f := make1(t)
	creates(t, f, "/a", 2)
	mkdirs(t, f, "/d", 3)
	links(t, f, "/a", "/b")
	links(t, f, "/b", "/d/c")
	links(t, f, "/d/c/", "//d//d")
	stats(t, f, 2, api.InodeFile, 4)
	writes(t, f, 2, 0, "all")
	has(t, f, rootItem(), fileItem("/a", 2, 4, "all"), fileItem("/b", 2, 4, "all"), dirItem("/d", 3), fileItem("/d/c", 2, 4, "all"), fileItem("/d/d", 2, 4, "all"))
	unlinks(t, f, "/a", 2, 3)
	unlinks(t, f, "/b", 2, 2)
	links(t, f, "/d/c", "/a")
	has(t, reopened(t, f, 0), rootItem(), fileItem("/a", 2, 3, "all"), dirItem("/d", 3), fileItem("/d/c", 2, 3, "all"), fileItem("/d/d", 2, 3, "all"))
}

func TestLinkIsRefused(t *testing.T) {
	f := tree(t)
	for _, path := range pathsThatMayNotBe {
		noLink(t, f, "/g", path, api.ErrPath)
		if path != "/" && path != "//" {
			noLink(t, f, path, "/x", api.ErrPath)
			noLink(t, f, path, "/x/y", api.ErrPath)
		}
	}
	for _, x := range []struct {
		a, b string
		e    api.Errno
	}{
		{"/x", "", api.ErrNone}, {"/g/x", "/d", api.ErrDir}, {"/", "", api.ErrIsDir}, {"/d", "/x", api.ErrIsDir}, {"/d/e", "/g", api.ErrIsDir}, {"/d", "/x/y", api.ErrIsDir},
		{"/g", "/x/y", api.ErrNone}, {"/g", "/d/f/x", api.ErrDir}, {"/g", "/g/x", api.ErrDir}, {"/g", "/d", api.ErrExist}, {"/g", "/d/f", api.ErrExist}, {"/g", "/g", api.ErrExist}, {"/g", "/d/e/h", api.ErrExist},
	} {
		noLink(t, f, x.a, x.b, x.e)
	}
	has(t, f, treeItems()...)
}

func TestMostLinks(t *testing.T) {
	f := tree(t)
	x, _ := f.Stat(3)
	x.Links = 65534
	puts(t, f, 3, x)
	links(t, f, "/d/f", "/x")
	stats(t, f, 3, api.InodeFile, 65535)
	noLink(t, f, "/d/f", "/y", api.ErrLinks)
	noLink(t, f, "/d/f", "/g", api.ErrExist)
	noLink(t, f, "/d/f", "/y/z", api.ErrNone)
	unlinks(t, f, "/x", 3, 65534)
	links(t, f, "/d/f", "/y")
}

// P20.4

func TestUnlink(t *testing.T) {
	f := tree(t)
	unlinks(t, f, "/g", 5, 1)
	reads(t, f, 5, "\x00gee")
	unlinks(t, f, "/d/e/h", 5, 0)
	orphans(t, f, 5, 6)
	// It can be read and written still.
	reads(t, f, 5, "\x00gee")
	writes(t, f, 5, 0, "G")
	reads(t, f, 5, "Ggee")
	unlinks(t, f, "/d/e/", 4, 0)
	stats(t, f, 4, api.InodeFree, 0)
	unlinks(t, f, "/d/f", 3, 0)
	unlinks(t, f, "/d", 2, 0)
	has(t, f, rootItem(), dirItem("/z", 7))
	orphans(t, f, 3, 5, 6)
	// A directory's blocks are free with it: what is left is those of three files, and the root's.
	if n, _ := inode.Used(f.Log(), example); n != 4 {
		t.Error("Used", n)
	}
	has(t, reopened(t, f, 3), rootItem(), dirItem("/z", 7))
}

func TestUnlinkIsRefused(t *testing.T) {
	f := tree(t)
	for _, path := range pathsThatMayNotBe {
		noUnlink(t, f, path, api.ErrPath)
	}
	for path, want := range map[string]api.Errno{
		"/x": api.ErrNone, "/x/y": api.ErrNone, "/d/x": api.ErrNone, "/g/x": api.ErrDir, "/d/f/x/y": api.ErrDir, "/d": api.ErrNotEmpty, "/d/e": api.ErrNotEmpty, "/o": api.ErrNone,
	} {
		noUnlink(t, f, path, want)
	}
	has(t, f, treeItems()...)
}

// P20.5

func TestRename(t *testing.T) {
	f := tree(t)
	renames(t, f, "/g", "/x", 0, 0)
	renames(t, f, "/x", "/d/x", 0, 0)
	renames(t, f, "/d/e", "/z/ee", 0, 0) // a directory, with what is in it
	walks(t, f, "/z/ee/h", 5)
	renames(t, f, "/d/f", "/d/x", 5, 1)
	has(t, f, rootItem(), dirItem("/d", 2), fileItem("/d/x", 3, 1, "eff"), dirItem("/z", 7), dirItem("/z/ee", 4), fileItem("/z/ee/h", 5, 1, "\x00gee"))
	// The last name of a file.
	renames(t, f, "/d/x", "/z/ee/h", 5, 0)
	orphans(t, f, 5, 6)
	// A directory in the place of an empty one.
	renames(t, f, "/z", "/d", 2, 0)
	stats(t, f, 2, api.InodeFree, 0)
	has(t, f, rootItem(), dirItem("/d", 7), dirItem("/d/ee", 4), fileItem("/d/ee/h", 3, 1, "eff"))
	// An empty one in the place of an empty one, in the same directory.
	mkdirs(t, f, "/a", 2)
	mkdirs(t, f, "/b", 8)
	renames(t, f, "/a", "/b", 8, 0)
	walks(t, f, "/b", 2)
	// Below what is not the one that is moved, though its name begins so.
	mkdirs(t, f, "/bb", 8)
	renames(t, f, "/b", "/bb/b", 0, 0)
	// And up.
	renames(t, f, "/d/ee", "/ee", 0, 0)
	renames(t, f, "/d", "/ee/d", 0, 0)
	want := []api.Item{rootItem(), dirItem("/bb", 8), dirItem("/bb/b", 2), dirItem("/ee", 4), dirItem("/ee/d", 7), fileItem("/ee/h", 3, 1, "eff")}
	has(t, f, want...)
	has(t, reopened(t, f, 2), want...)
}

// Where both are the same inode nothing is done.
func TestRenameOfTheSame(t *testing.T) {
	f := tree(t)
	dirty, kept := f.Log().Dirty(), f.Names().Kept()
	renames(t, f, "/g", "/d/e/h", 0, 0)
	renames(t, f, "/d/e/h", "/g", 0, 0)
	renames(t, f, "/g", "//g/", 0, 0)
	renames(t, f, "/d", "/d", 0, 0)
	renames(t, f, "/d/e", "/d//e", 0, 0)
	has(t, f, treeItems()...)
	if !slices.Equal(f.Log().Dirty(), dirty) || !slices.Equal(f.Names().Kept(), kept) {
		t.Error("Dirty", f.Log().Dirty(), "Kept", f.Names().Kept())
	}
}

func TestRenameIsRefused(t *testing.T) {
	f := tree(t)
	for _, path := range pathsThatMayNotBe {
		noRename(t, f, path, "/y", api.ErrPath)
		noRename(t, f, path, "", api.ErrPath)
		noRename(t, f, "/g", path, api.ErrPath)
		noRename(t, f, "/d", path, api.ErrPath)
		noRename(t, f, "/x", path, api.ErrNone)
		noRename(t, f, "/g/x", path, api.ErrDir)
	}
	for _, x := range []struct {
		a, b string
		e    api.Errno
	}{
		{"/x", "/y", api.ErrNone}, {"/x/y", "/g", api.ErrNone}, {"/g/x", "/y", api.ErrDir}, {"/x", "/g/y", api.ErrNone},
		{"/g", "/x/y", api.ErrNone}, {"/g", "/g/y", api.ErrDir}, {"/g", "/d/f/y", api.ErrDir}, {"/d", "/g/y", api.ErrDir},
		// Below itself, what is there or not.
		{"/d", "/d/x", api.ErrLoop}, {"/d", "/d/f", api.ErrLoop}, {"/d", "//d/e/", api.ErrLoop}, {"/d", "/d/e/x", api.ErrLoop}, {"/d", "/d/e/h", api.ErrLoop}, {"/d/e", "/d/e/h", api.ErrLoop}, {"/z", "/z/z", api.ErrLoop},
		{"/d", "/d/x/y", api.ErrNone}, {"/d", "/d/f/y", api.ErrDir},
		{"/d", "/g", api.ErrDir}, {"/z", "/d/f", api.ErrDir}, {"/g", "/z", api.ErrIsDir}, {"/g", "/d", api.ErrIsDir}, {"/d/f", "/d/e", api.ErrIsDir}, {"/d/f", "/d", api.ErrIsDir},
		{"/z", "/d", api.ErrNotEmpty}, {"/z", "/d/e", api.ErrNotEmpty}, {"/d/e", "/d", api.ErrNotEmpty},
	} {
		noRename(t, f, x.a, x.b, x.e)
	}
	has(t, f, treeItems()...)
}

// What b's entry named has a Link fewer, also if it has none left that an entry could take.
func TestRenameOverManyLinks(t *testing.T) {
	f := tree(t)
	x, _ := f.Stat(5)
	x.Links = 65535
	puts(t, f, 5, x)
	renames(t, f, "/d/f", "/g", 5, 65534)
}

// P20.6

func TestWrite(t *testing.T) {
	f := tree(t)
	writes(t, f, 3, 3, "ffs")
	writes(t, f, 3, 0, "E")
	writes(t, f, 3, 8, "")
	reads(t, f, 3, "Effffs\x00\x00")
	writes(t, f, 6, 600, "far") // an orphan
	reads(t, f, 6, "oh"+strings.Repeat("\x00", 598)+"far")
	writes(t, f, 3, api.MaxFileSize-1, "!")
	for _, x := range []struct {
		n, at int
		b     string
		e     api.Errno
	}{
		{1, 0, "b", api.ErrIsDir}, {2, -1, "", api.ErrIsDir}, {7, 0, "", api.ErrIsDir},
		{0, 0, "b", api.ErrInode}, {17, -1, "b", api.ErrInode}, {math.MinInt, 0, "b", api.ErrInode}, {math.MaxInt, 0, "b", api.ErrInode}, {8, 0, "b", api.ErrInode}, {8, -1, "", api.ErrInode},
		{3, -1, "b", api.ErrRange}, {3, math.MinInt, "", api.ErrRange}, {3, api.MaxFileSize, "b", api.ErrRange}, {3, math.MaxInt, "b", api.ErrRange}, {3, 1, strings.Repeat("b", api.MaxFileSize), api.ErrRange},
	} {
		refused(t, f, x.e, "Write", func() answer { return just(f.Write(x.n, x.at, []byte(x.b))) })
	}
	agrees(t, f)
}

// What is handed in is neither changed nor kept.
func TestWriteTakesACopy(t *testing.T) {
	f := tree(t)
	b := append(make([]byte, 0, 20), "text behind"...)
	f.Write(3, 0, b[:4])
	if string(b) != "text behind" {
		t.Error(string(b))
	}
	clear(b)
	reads(t, f, 3, "text")
}

func TestTruncate(t *testing.T) {
	f := tree(t)
	truncates := func(n, size int) {
		t.Helper()
		if e := f.Truncate(n, size); e != api.OK {
			t.Error("Truncate", n, size, e)
		}
	}
	truncates(3, 2)
	reads(t, f, 3, "ef")
	truncates(3, 4)
	reads(t, f, 3, "ef\x00\x00")
	truncates(6, 0)
	reads(t, f, 6, "")
	truncates(5, api.MaxFileSize)
	agrees(t, f)
	for _, x := range []struct {
		n, size int
		e       api.Errno
	}{
		{1, 0, api.ErrIsDir}, {2, -1, api.ErrIsDir}, {0, 0, api.ErrInode}, {17, -1, api.ErrInode}, {math.MaxInt, 0, api.ErrInode}, {8, 0, api.ErrInode},
		{3, -1, api.ErrRange}, {3, api.MaxFileSize + 1, api.ErrRange}, {3, math.MaxInt, api.ErrRange}, {3, math.MinInt, api.ErrRange},
	} {
		refused(t, f, x.e, "Truncate", func() answer { return just(f.Truncate(x.n, x.size)) })
	}
}

func TestRelease(t *testing.T) {
	f := tree(t)
	commits(t, f)
	for _, n := range []int{1, 2, 3, 5, 8, 16} {
		releases(t, f, n, false)
	}
	// A directory without links is no file.
	puts(t, f, 9, api.Inode{Kind: api.InodeDir})
	releases(t, f, 9, false)
	inode.Free(f.Log(), example, 9)
	for _, n := range []int{0, -1, 17, math.MinInt, math.MaxInt} {
		refused(t, f, api.ErrInode, "Release", func() answer {
			ok, e := f.Release(n)
			return answer{!ok, e}
		})
	}
	was, _ := inode.Used(f.Log(), example)
	releases(t, f, 6, true)
	stats(t, f, 6, api.InodeFree, 0)
	if n, _ := inode.Used(f.Log(), example); n != was-1 {
		t.Error("Used", n, was)
	}
	releases(t, f, 6, false)
	orphans(t, f)
	has(t, reopened(t, f, 0), treeItems()...)
}

// An orphan whose blocks can not be told.
func TestReleaseIsRefused(t *testing.T) {
	f := tree(t)
	writes(t, f, 6, 20*size, "far")
	x, _ := f.Stat(6)
	pokes(t, f, x.Blocks[12], 0, 200)
	refused(t, f, api.ErrInode, "Release", func() answer {
		ok, e := f.Release(6)
		return answer{!ok, e}
	})
}

// The cache.

// unknown holds that the cache keeps nothing of entries.
func unknown(t *testing.T, f *fsop.FS, names ...api.Name) {
	t.Helper()
	for _, k := range names {
		if n, ok := f.Names().Look(k); n != 0 || ok {
			t.Error("Look", k, n, ok)
		}
	}
}

// knows lets the cache keep what entries there are, and are not.
func knows(t *testing.T, f *fsop.FS, paths ...string) {
	t.Helper()
	for _, path := range paths {
		f.Walk(path)
	}
}

func TestTheCacheForgets(t *testing.T) {
	f := make1(t)
	knows(t, f, "/f", "/d", "/l", "/r")
	creates(t, f, "/f", 2)
	unknown(t, f, api.Name{Dir: 1, Name: "f"})
	mkdirs(t, f, "/d", 3)
	unknown(t, f, api.Name{Dir: 1, Name: "d"})
	links(t, f, "/f", "/l")
	unknown(t, f, api.Name{Dir: 1, Name: "l"})
	knows(t, f, "/f", "/l", "/d/x", "/d/y")
	unlinks(t, f, "/l", 2, 1)
	unknown(t, f, api.Name{Dir: 1, Name: "l"})
	renames(t, f, "/f", "/r", 0, 0)
	unknown(t, f, api.Name{Dir: 1, Name: "f"}, api.Name{Dir: 1, Name: "r"})
	// Others are kept.
	if n, ok := f.Names().Look(api.Name{Dir: 3, Name: "y"}); n != 0 || !ok {
		t.Error("Look", n, ok)
	}
	creates(t, f, "/d/f", 4)
	knows(t, f, "/d/f", "/r")
	renames(t, f, "/r", "/d/f", 4, 0) // it is changed
	unknown(t, f, api.Name{Dir: 3, Name: "f"}, api.Name{Dir: 1, Name: "r"})
	unlinks(t, f, "/d/f", 2, 0)
	knows(t, f, "/d/f", "/d/g")
	unlinks(t, f, "/d", 3, 0)
	unknown(t, f, api.Name{Dir: 1, Name: "d"}, api.Name{Dir: 3, Name: "f"}, api.Name{Dir: 3, Name: "g"}, api.Name{Dir: 3, Name: "x"})
	// So of one that goes by a Rename.
	mkdirs(t, f, "/a", 3)
	mkdirs(t, f, "/b", 5)
	knows(t, f, "/a/p", "/b/q")
	renames(t, f, "/a", "/b", 5, 0)
	unknown(t, f, api.Name{Dir: 1, Name: "a"}, api.Name{Dir: 1, Name: "b"}, api.Name{Dir: 5, Name: "q"})
	if n, ok := f.Names().Look(api.Name{Dir: 3, Name: "p"}); n != 0 || !ok {
		t.Error("Look", n, ok)
	}
}

// What is refused has changed no entry, and nothing is forgotten.
func TestTheCacheKeepsWhatHasNotChanged(t *testing.T) {
	l := api.Layout{Sectors: 64, Log: 4, Inodes: 16} // room for three blocks
	f := make2(t, l)
	mkdirs(t, f, "/d", 2)
	commits(t, f)
	creates(t, f, "/f", 3)
	commits(t, f)
	knows(t, f, "/f", "/d/f", "/d/g")
	kept := f.Names().Kept()
	noCreate(t, f, "/f", api.ErrExist)
	// A new block of /d, its inode and the bitmap have room, the root's block has not.
	noRename(t, f, "/f", "/d/f", api.ErrSpace)
	if !slices.Equal(f.Names().Kept(), kept) {
		t.Error("Kept", f.Names().Kept(), "not", kept)
	}
	walks(t, f, "/f", 3)
}
