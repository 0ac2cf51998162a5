package kern

import (
	"slices"
	"strings"

	"parapet/api"
	"parapet/disk"
	"parapet/fsop"
	"parapet/rcu"
)

// namesKept is the room of the name cache.
const namesKept = 64

// volume is a file system that a boot found, the harts' sections in which its names are read, and its tree.
type volume struct {
	fs      *fsop.FS
	readers *rcu.Domain
	tree    []api.Placed
}

// plant is a new disk that has some files.
func plant(l api.Layout, files []api.Placed) (*disk.Disk, api.Errno) {
	d, e := disk.New(l.Sectors)
	if e != api.OK {
		return nil, e
	}
	r, e := rcu.New(1)
	if e != api.OK {
		return nil, e
	}
	f, e := fsop.Format(d, l, r, namesKept)
	if e != api.OK {
		return nil, e
	}
	for _, x := range files {
		if put(f, x) != api.OK {
			return nil, api.ErrSpace
		}
	}
	_, e = f.Log().Commit()
	return d, e
}

// put lets a file or a directory be there.
func put(f *fsop.FS, x api.Placed) api.Errno {
	if x.Dir {
		return surely(f, func() api.Errno {
			_, e := f.Mkdir(x.Path)
			return e
		})
	}
	n := 0
	e := surely(f, func() (e api.Errno) {
		n, e = f.Create(x.Path)
		return e
	})
	// A whole file is more than the least log has room for.
	at := 0
	for b := range slices.Chunk([]byte(x.Bytes), api.MaxCopy) {
		if e == api.OK {
			e = surely(f, func() api.Errno { return f.Write(n, at, b) })
		}
		at += len(b)
	}
	return e
}

// surely does an operation, behind a commit if the log has no room.
func surely(f *fsop.FS, do func() api.Errno) api.Errno {
	e := do()
	if e == api.ErrWait {
		f.Log().Commit()
		e = do()
	}
	return e
}

// mount is what a boot finds on a disk.
func mount(d *disk.Disk, harts int) (volume, api.Errno) {
	r, e := rcu.New(harts)
	if e != api.OK {
		return volume{}, e
	}
	f, _, e := fsop.Mount(d, r, namesKept)
	if e != api.OK {
		return volume{}, e
	}
	tree, e := treeOf(f)
	if e != api.OK {
		return volume{}, e
	}
	return volume{fs: f, readers: r, tree: tree}, api.OK
}

// treeOf is all files and directories but the root, in the order in which one walks.
func treeOf(f *fsop.FS) ([]api.Placed, api.Errno) {
	items, e := f.Items()
	if e != api.OK {
		return nil, e
	}
	var l []api.Placed
	for _, x := range items {
		if x.Path != "/" {
			l = append(l, api.Placed{Path: x.Path, Dir: x.Kind == api.InodeDir, Bytes: x.Data})
		}
	}
	// Name by name: what is in a directory comes ahead of its neighbours, whatever bytes follow in their names.
	slices.SortFunc(l, func(a, b api.Placed) int {
		return slices.Compare(strings.Split(a.Path, "/"), strings.Split(b.Path, "/"))
	})
	return l, api.OK
}
