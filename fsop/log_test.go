package fsop_test

import (
	"strings"
	"testing"

	"parapet/api"
	"parapet/fsop"
)

// operations is one of each kind, which goes well on the file system of tree, by itself.
func operations() map[string]func(*fsop.FS) answer {
	return map[string]func(*fsop.FS) answer{
		"Create":   func(f *fsop.FS) answer { return number(f.Create("/x")) },
		"Mkdir":    func(f *fsop.FS) answer { return number(f.Mkdir("/d/x")) },
		"Link":     func(f *fsop.FS) answer { return just(f.Link("/g", "/x")) },
		"Unlink":   func(f *fsop.FS) answer { return numbers(f.Unlink("/g")) },
		"Rename":   func(f *fsop.FS) answer { return numbers(f.Rename("/d/f", "/g")) },
		"Write":    func(f *fsop.FS) answer { return just(f.Write(3, 0, []byte("b"))) },
		"Truncate": func(f *fsop.FS) answer { return just(f.Truncate(3, 0)) },
		"Release": func(f *fsop.FS) answer {
			ok, e := f.Release(6)
			return answer{!ok, e}
		},
	}
}

// While a commit runs, or somebody else's operation, ErrWait is told.
func TestWhileALogIsBusy(t *testing.T) {
	for name, do := range operations() {
		f := tree(t)
		if !f.Log().Start() {
			t.Fatal("Start")
		}
		for f.Log().Running() {
			refused(t, f, api.ErrWait, name, func() answer { return do(f) })
			// What only looks goes on.
			has(t, f, treeItems()...)
			walks(t, f, "/d/f", 3)
			reads(t, f, 3, "eff")
			orphans(t, f, 6)
			f.Log().Step()
		}
		if x := do(f); x.e != api.OK {
			t.Error(name, x.e)
		}
		f = tree(t)
		f.Log().Begin()
		refused(t, f, api.ErrWait, name, func() answer { return do(f) })
		f.Log().End()
		if x := do(f); x.e != api.OK {
			t.Error(name, x.e)
		}
		agrees(t, f)
	}
}

// A commit makes room for what was told ErrWait, also one that has begun.
func TestCommitOfABusyLog(t *testing.T) {
	f := tree(t)
	f.Log().Start()
	f.Log().Step()
	noCreate(t, f, "/x", api.ErrWait)
	commits(t, f)
	creates(t, f, "/x", 8)
}

// What does not hang on the log is told ahead of it, where bytes are written; names are looked for in the operation.
func TestRefusalsWhileALogIsBusy(t *testing.T) {
	f := tree(t)
	f.Log().Start()
	refused(t, f, api.ErrIsDir, "Write", func() answer { return just(f.Write(1, 0, nil)) })
	refused(t, f, api.ErrIsDir, "Truncate", func() answer { return just(f.Truncate(2, 0)) })
	refused(t, f, api.ErrWait, "Write", func() answer { return just(f.Write(3, -1, nil)) })
	releases(t, f, 3, false)
	if ok, e := f.Release(17); ok || e != api.ErrInode {
		t.Error("Release", ok, e)
	}
	noCreate(t, f, "/g", api.ErrWait)
	noUnlink(t, f, "/x", api.ErrWait)
}

// P20.10: in a log with room for three blocks.
func TestWaitForRoom(t *testing.T) {
	l := api.Layout{Sectors: 64, Log: 4, Inodes: 16}
	f := make2(t, l)
	creates(t, f, "/a", 2) // inodes, the bitmap, the root's block
	if n := f.Log().Room(); n != 0 {
		t.Fatal("Room", n)
	}
	creates(t, f, "/b", 3) // the same ones
	refused(t, f, api.ErrWait, "Write", func() answer { return just(f.Write(2, 0, []byte("b"))) })
	commits(t, f)
	writes(t, f, 2, 0, "b") // a new block
	refused(t, f, api.ErrWait, "Write", func() answer { return just(f.Write(3, 0, []byte("b"))) })
	noCreate(t, f, "/c", api.ErrWait)
	noLink(t, f, "/a", "/c", api.ErrWait)
	noUnlink(t, f, "/a", api.ErrWait)
	noRename(t, f, "/a", "/b", api.ErrWait)
	// One that needs no further block need not wait.
	writes(t, f, 2, 0, "B")
	commits(t, f)
	creates(t, f, "/c", 4)
	agrees(t, reopened(t, f, 0))
}

// What never fits is ErrSpace, once the group is empty.
func TestTooMuchForTheLog(t *testing.T) {
	l := api.Layout{Sectors: 64, Log: 4, Inodes: 16}
	f := make2(t, l)
	creates(t, f, "/a", 2)
	two := []byte(strings.Repeat("b", 2*size))
	write := func() answer { return just(f.Write(2, 0, two)) }
	refused(t, f, api.ErrWait, "Write", write)
	commits(t, f)
	refused(t, f, api.ErrSpace, "Write", write)
	refused(t, f, api.ErrSpace, "Write", write)
	if f.Log().Room() != 3 {
		t.Error("Room", f.Log().Room())
	}
	writes(t, f, 2, 0, string(two[:size]))
	refused(t, f, api.ErrWait, "Write", func() answer { return just(f.Write(2, size, two[size:])) })
	commits(t, f)
	writes(t, f, 2, size, string(two[size:]))
	commits(t, f)
	// Its blocks are there now: the inode need not be written.
	writes(t, f, 2, 0, string(two))
	// A file that is too long is that, whatever the log is.
	refused(t, f, api.ErrRange, "Write", func() answer { return just(f.Write(2, api.MaxFileSize, two)) })
	agrees(t, reopened(t, f, 0))
}

// Whatever room a group has, an operation is done whole, waits, or never fits.
func TestEachRoom(t *testing.T) {
	for name, do := range operations() {
		for taken := range 31 {
			f := tree(t)
			commits(t, f)
			for n := range taken {
				pokes(t, f, 127-n, 0, 9) // blocks that nobody has
			}
			was := image(t, f)
			fits := 31 - taken
			x := do(f)
			switch {
			case x.e == api.OK:
				fits -= len(f.Log().Dirty()) - taken
				if fits < 0 || string(was) == string(image(t, f)) {
					t.Error(name, taken, fits)
				}
			case x != (answer{true, api.ErrWait}) || string(was) != string(image(t, f)) || fits > 6:
				t.Error(name, taken, x)
			default:
				commits(t, f)
				if x := do(f); x.e != api.OK {
					t.Error(name, taken, x, "told again")
				}
			}
			agrees(t, f)
		}
	}
}
