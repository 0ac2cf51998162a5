package namec_test

import (
	"math"
	"slices"
	"testing"

	"parapet/api"
	"parapet/dirent"
	"parapet/disk"
	"parapet/inode"
	"parapet/namec"
)

var example = api.Layout{Sectors: 64, Log: 8, Inodes: 16}

// The inodes of the volume of these tests: /d, /d/e, /d/f, /g, and a name that names one that is free.
const (
	dirD   = 2
	dirE   = 3
	fileF  = 4
	fileG  = 5
	broken = 6 // /w: a directory whose bytes are not right
	odd    = 7 // /o: its bytes are none of an inode that may be
	free   = 8 // /n
)

// volume is a disk with these inodes.
func volume(t *testing.T) *disk.Disk {
	t.Helper()
	d, _ := disk.New(example.Sectors)
	if e := inode.Format(d, example); e != api.OK {
		t.Fatal("Format", e)
	}
	for i, kind := range []int{api.InodeDir, api.InodeDir, api.InodeDir, api.InodeFile, api.InodeFile, api.InodeDir, api.InodeFile} {
		if n, e := inode.Alloc(d, example, kind); n != i+1 || e != api.OK {
			t.Fatal("Alloc", n, e)
		}
	}
	add(t, d, 1, "d", dirD)
	add(t, d, dirD, "e", dirE)
	add(t, d, dirD, "f", fileF)
	add(t, d, 1, "g", fileG)
	add(t, d, 1, "w", broken)
	add(t, d, 1, "o", odd)
	add(t, d, 1, "n", free)
	add(t, d, 1, ".", dirD)
	add(t, d, dirD, "..", 1)
	if e := inode.Write(d, example, broken, 0, []byte("no slot")); e != api.OK {
		t.Fatal("Write", e)
	}
	b, _ := d.Read(9)
	b[(odd-1)*64] = 3
	d.Write(9, b)
	return d
}

func add(t *testing.T, s api.Store, dir int, name string, n int) {
	t.Helper()
	if e := dirent.Add(s, example, dir, name, n); e != api.OK {
		t.Fatal("Add", dir, name, n, e)
	}
}

func walks(t *testing.T, c *namec.Cache, s api.Store, path string, want int) {
	t.Helper()
	if n, e := c.Walk(s, example, path); n != want || e != api.OK {
		t.Errorf("Walk %q: %d, %d, not %d", path, n, e, want)
	}
}

func walksNot(t *testing.T, c *namec.Cache, s api.Store, path string, want api.Errno) {
	t.Helper()
	if n, e := c.Walk(s, example, path); n != 0 || e != want {
		t.Errorf("Walk %q: %d, %d, not %d", path, n, e, want)
	}
}

func parents(t *testing.T, c *namec.Cache, s api.Store, path string, dir int, last string) {
	t.Helper()
	if n, x, e := c.Parent(s, example, path); n != dir || x != last || e != api.OK {
		t.Errorf("Parent %q: %d, %q, %d, not %d, %q", path, n, x, e, dir, last)
	}
}

func parentsNot(t *testing.T, c *namec.Cache, s api.Store, path string, want api.Errno) {
	t.Helper()
	if n, x, e := c.Parent(s, example, path); n != 0 || x != "" || e != want {
		t.Errorf("Parent %q: %d, %q, %d, not %d", path, n, x, e, want)
	}
}

// P19.2

func TestWalk(t *testing.T) {
	d := volume(t)
	c, r := make1(t, 100)
	// The second time the cache keeps it all.
	for range 2 {
		walks(t, c, d, "/", 1)
		walks(t, c, d, "///", 1)
		walks(t, c, d, "/d", dirD)
		walks(t, c, d, "//d//f/", fileF)
		walks(t, c, d, "/d/e/", dirE)
		walks(t, c, d, "/g", fileG)
		walks(t, c, d, "/w", broken)
		walks(t, c, d, "/o", odd)
		walks(t, c, d, "/n", free)
		// These are names like others.
		walks(t, c, d, "/./..", 1)
		walks(t, c, d, "/./../d/f", fileF)
		walksNot(t, c, d, "/..", api.ErrNone)
		walksNot(t, c, d, "/d/.", api.ErrNone)
		walksNot(t, c, d, "/x", api.ErrNone)
		walksNot(t, c, d, "/x/y/z", api.ErrNone)
		walksNot(t, c, d, "/d/e/f", api.ErrNone)
		walksNot(t, c, d, "/D", api.ErrNone)
	}
	looks(t, c, name(1, "d"), dirD)
	looks(t, c, name(1, "x"), 0)
	keeps(t, c, name(1, "d"), name(dirD, "f"), name(dirD, "e"), name(1, "g"), name(1, "w"), name(1, "o"), name(1, "n"), name(1, "."), name(dirD, ".."),
		name(1, ".."), name(dirD, "."), name(1, "x"), name(dirE, "f"), name(1, "D"))
	waits(t, r)
}

// Example 1, and what is known of a name is forgotten when it comes.
func TestWalkOfNone(t *testing.T) {
	d := volume(t)
	c, _ := make1(t, 100)
	unknown(t, c, name(1, "x"))
	walksNot(t, c, d, "/x", api.ErrNone)
	looks(t, c, name(1, "x"), 0)
	add(t, d, 1, "x", fileG)
	walksNot(t, c, d, "/x", api.ErrNone)
	forgets(t, c, name(1, "x"))
	walks(t, c, d, "/x", fileG)
}

// What the cache keeps comes ahead of what the directory says.
func TestWalkByWhatIsKept(t *testing.T) {
	d := volume(t)
	c, _ := make1(t, 100)
	puts(t, c, name(1, "d"), dirE)
	puts(t, c, name(dirE, "x"), 12345)
	puts(t, c, name(1, "g"), 0)
	walks(t, c, d, "/d", dirE)
	walks(t, c, d, "/d/x", 12345)
	walksNot(t, c, d, "/d/x/y", api.ErrInode)
	walksNot(t, c, d, "/d/e", api.ErrNone)
	walksNot(t, c, d, "/g", api.ErrNone)
	walksNot(t, c, d, "/g/x", api.ErrNone)
	// A directory whose names are kept is not read, but for its inode.
	puts(t, c, name(broken, "x"), fileG)
	walks(t, c, d, "/w/x", fileG)
	walksNot(t, c, d, "/w/y", api.ErrDirent)
	// It is asked whether one stands in a directory, whatever is kept.
	puts(t, c, name(fileF, "x"), fileG)
	puts(t, c, name(free, "x"), fileG)
	puts(t, c, name(odd, "x"), fileG)
	puts(t, c, name(dirD, "f"), fileF)
	puts(t, c, name(1, "d"), dirD)
	walksNot(t, c, d, "/d/f/x", api.ErrDir)
	walksNot(t, c, d, "/n/x", api.ErrDir)
	walksNot(t, c, d, "/o/x", api.ErrInode)
}

// A walk that finds what is kept leaves the order as it is; one that does not puts in.
func TestWalkAndTheOrder(t *testing.T) {
	d := volume(t)
	c, r := make1(t, 2)
	walks(t, c, d, "/d/f", fileF)
	walks(t, c, d, "/d", dirD)
	keeps(t, c, name(1, "d"), name(dirD, "f"))
	walks(t, c, d, "/g", fileG)
	keeps(t, c, name(dirD, "f"), name(1, "g"))
	waits(t, r, 1)
	walks(t, c, d, "/d/f", fileF)
	keeps(t, c, name(1, "d"), name(dirD, "f"))
	waits(t, r, 1, 2, 3)
}

func TestWalkIsRefused(t *testing.T) {
	d := volume(t)
	c, r := make1(t, 100)
	for range 2 {
		for _, path := range []string{"", "d", "/\x00", "/abcdefghijklmno", "d/e"} {
			walksNot(t, c, d, path, api.ErrPath)
			walksNot(t, c, nil, path, api.ErrPath)
		}
		walksNot(t, c, d, "/g/x", api.ErrDir)
		walksNot(t, c, d, "/g/x/y", api.ErrDir)
		walksNot(t, c, d, "/n/x", api.ErrDir)
		walksNot(t, c, d, "/o/x", api.ErrInode)
		walksNot(t, c, d, "/w/x", api.ErrDirent)
		walksNot(t, c, d, "/w/x/y", api.ErrDirent)
	}
	keeps(t, c, name(1, "g"), name(1, "n"), name(1, "o"), name(1, "w"))
	waits(t, r)
	walksNot(t, c, nil, "/a", api.ErrArg)
	walks(t, c, nil, "/", 1)
	if n, e := c.Walk(d, api.Layout{}, "/d"); n != 0 || e != api.ErrArg {
		t.Error("Walk", n, e)
	}
	keeps(t, c, name(1, "g"), name(1, "n"), name(1, "o"), name(1, "w"))
}

// The root is asked as any other one.
func TestRootThatIsNoDirectory(t *testing.T) {
	d := volume(t)
	c, _ := make1(t, 100)
	inode.Free(d, example, 1)
	walks(t, c, d, "/", 1)
	walksNot(t, c, d, "/d", api.ErrDir)
	parentsNot(t, c, d, "/d", api.ErrDir)
	inode.Alloc(d, example, api.InodeFile)
	walksNot(t, c, d, "/d", api.ErrDir)
	parentsNot(t, c, d, "/d", api.ErrDir)
	keeps(t, c)
}

func TestParent(t *testing.T) {
	d := volume(t)
	c, _ := make1(t, 100)
	for range 2 {
		parents(t, c, d, "/d", 1, "d")
		parents(t, c, d, "/x", 1, "x")
		parents(t, c, d, "//abcdefghijklmn//", 1, "abcdefghijklmn")
		parents(t, c, d, "/d/f", dirD, "f")
		parents(t, c, d, "/d/e/x/", dirE, "x")
		parents(t, c, d, "/w/x", broken, "x")
		parents(t, c, d, "/d/../.", 1, ".")
	}
	// The last name is not asked for.
	keeps(t, c, name(1, "d"), name(dirD, "e"), name(1, "w"), name(dirD, ".."))
}

func TestParentIsRefused(t *testing.T) {
	d := volume(t)
	c, _ := make1(t, 100)
	for range 2 {
		for _, path := range []string{"", "/", "//", "d", "/\x00", "/d/abcdefghijklmno", "/abcdefghijklmno/d"} {
			parentsNot(t, c, d, path, api.ErrPath)
			parentsNot(t, c, nil, path, api.ErrPath)
		}
		parentsNot(t, c, d, "/g/x", api.ErrDir)
		parentsNot(t, c, d, "/g/x/y", api.ErrDir)
		parentsNot(t, c, d, "/n/x", api.ErrDir)
		parentsNot(t, c, d, "/x/y", api.ErrNone)
		parentsNot(t, c, d, "/d/x/y", api.ErrNone)
		parentsNot(t, c, d, "/o/x", api.ErrInode)
		parentsNot(t, c, d, "/w/x/y", api.ErrDirent)
		parentsNot(t, c, nil, "/x", api.ErrArg)
		parentsNot(t, c, nil, "/x/y", api.ErrArg)
	}
	puts(t, c, name(1, "far"), math.MaxInt)
	parentsNot(t, c, d, "/far/x", api.ErrInode)
}

// refused is an error that no layer tells by itself.
const refused = api.Errno(777)

// refuser is a store that refuses one operation, or counts them.
type refuser struct {
	api.Store
	asked int
	left  int // operations up to the one that is refused; below 0: none is
}

func (s *refuser) Read(n int) ([]byte, api.Errno) {
	s.asked++
	s.left--
	if s.left == -1 {
		return nil, refused
	}
	return s.Store.Read(n)
}

// Whatever a store refuses is told, and what was not found is not kept.
func TestStoreRefuses(t *testing.T) {
	for name, do := range map[string]func(*namec.Cache, api.Store) (bool, api.Errno){
		"Walk": func(c *namec.Cache, s api.Store) (bool, api.Errno) {
			n, e := c.Walk(s, example, "/d/e")
			return n == 0, e
		},
		"Parent": func(c *namec.Cache, s api.Store) (bool, api.Errno) {
			n, last, e := c.Parent(s, example, "/d/e/x")
			return n == 0 && last == "", e
		},
	} {
		c, _ := make1(t, 9)
		s := &refuser{Store: volume(t), left: -1}
		if _, e := do(c, s); e != api.OK {
			t.Error(name, e)
		}
		all := c.Kept()
		for left := range s.asked {
			c, _ := make1(t, 9)
			s := &refuser{Store: volume(t), left: left}
			if nothing, e := do(c, s); !nothing || e != refused {
				t.Error(name, "of operation", left, nothing, e)
			}
			if l := c.Kept(); !slices.Equal(l, all[:len(l)]) {
				t.Error(name, "of operation", left, "keeps", l)
			}
			for _, k := range c.Kept() {
				if n, _ := c.Look(k); n == 0 {
					t.Error(name, "of operation", left, "knows that there is no", k)
				}
			}
			if nothing, e := do(c, s); nothing || e != api.OK {
				t.Error(name, "behind operation", left, nothing, e)
			}
		}
	}
}
