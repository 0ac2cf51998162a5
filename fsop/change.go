package fsop

import (
	"slices"

	"parapet/api"
	"parapet/inode"
	"parapet/namec"
)

const mostLinks = 1<<16 - 1

// Create makes a file.
func (f *FS) Create(path string) (int, api.Errno) {
	return f.create(path, api.InodeFile)
}

// Mkdir makes a directory.
func (f *FS) Mkdir(path string) (int, api.Errno) {
	return f.create(path, api.InodeDir)
}

func (f *FS) create(path string, kind int) (int, api.Errno) {
	t, e := f.operate(func(t *turn) api.Errno {
		k, e := t.vacant(path)
		if e != api.OK {
			return e
		}
		if t.n, e = inode.Alloc(t.log, t.layout, kind); e != api.OK {
			return e
		}
		if e := inode.Put(t.log, t.layout, t.n, api.Inode{Kind: kind, Links: 1}); e != api.OK {
			return e
		}
		return t.add(k, t.n)
	})
	return t.n, e
}

// Link gives a file one more name.
func (f *FS) Link(a, b string) api.Errno {
	_, e := f.operate(func(t *turn) api.Errno {
		n, e := t.Walk(a)
		if e != api.OK {
			return e
		}
		x, e := t.Stat(n)
		if e != api.OK {
			return e
		}
		if x.Kind == api.InodeDir {
			return api.ErrIsDir
		}
		k, e := t.vacant(b)
		if e != api.OK {
			return e
		}
		if x.Links == mostLinks {
			return api.ErrLinks
		}
		x.Links++
		if e := inode.Put(t.log, t.layout, n, x); e != api.OK {
			return e
		}
		return t.add(k, n)
	})
	return e
}

// Unlink takes a name away, and tells what it named, and how many names that has still.
func (f *FS) Unlink(path string) (n, links int, e api.Errno) {
	t, e := f.operate(func(t *turn) api.Errno {
		k, n, e := t.taken(path)
		if e != api.OK {
			return e
		}
		if e := t.drop(n); e != api.OK {
			return e
		}
		return t.remove(k)
	})
	return t.n, t.links, e
}

// Rename gives something another name, and tells what had that name, and how many it has still.
func (f *FS) Rename(a, b string) (n, links int, e api.Errno) {
	t, e := f.operate(func(t *turn) api.Errno {
		from, n, e := t.taken(a)
		if e != api.OK {
			return e
		}
		to, e := t.parent(b)
		if e != api.OK {
			return e
		}
		x, e := t.Stat(n)
		if e != api.OK {
			return e
		}
		if x.Kind == api.InodeDir && isBelow(b, a) {
			return api.ErrLoop
		}
		was, e := t.named(to)
		if e != api.OK || was == n {
			return e
		}
		if e := t.settle(to, was, n, x.Kind); e != api.OK {
			return e
		}
		return t.remove(from)
	})
	return t.n, t.links, e
}

// settle lets the entry of a new name name n, of a kind, whatever it named: 0, if it is not there.
func (t *turn) settle(to api.Name, was, n, kind int) api.Errno {
	if was == 0 {
		return t.add(to, n)
	}
	x, e := t.Stat(was)
	switch {
	case e != api.OK:
		return e
	case kind == api.InodeDir && x.Kind != api.InodeDir:
		return api.ErrDir
	case kind != api.InodeDir && x.Kind == api.InodeDir:
		return api.ErrIsDir
	}
	if e := t.drop(was); e != api.OK {
		return e
	}
	return t.change(to, n)
}

// isBelow tells whether a path's names go on behind those of another one.
func isBelow(path, other string) bool {
	names, _ := namec.Split(path)
	ahead, _ := namec.Split(other)
	return len(names) > len(ahead) && slices.Equal(names[:len(ahead)], ahead)
}

// Write writes some bytes of a file.
func (f *FS) Write(n, at int, b []byte) api.Errno {
	return f.alter(n, func(t *turn) api.Errno {
		return inode.Write(t.log, t.layout, n, at, b)
	})
}

// Truncate lets a file have so many bytes.
func (f *FS) Truncate(n, size int) api.Errno {
	return f.alter(n, func(t *turn) api.Errno {
		return inode.Truncate(t.log, t.layout, n, size)
	})
}

// alter lets something be done to the bytes of what is no directory.
func (f *FS) alter(n int, do func(*turn) api.Errno) api.Errno {
	if f.isDir(n) {
		return api.ErrIsDir
	}
	_, e := f.operate(do)
	return e
}

// Release frees a file without a name, and tells whether it was one.
func (f *FS) Release(n int) (bool, api.Errno) {
	x, e := f.Stat(n)
	if e != api.OK || !isOrphan(x) {
		return false, e
	}
	if e := f.free(n); e != api.OK {
		return false, e
	}
	return true, api.OK
}

func (f *FS) free(n int) api.Errno {
	_, e := f.operate(func(t *turn) api.Errno {
		return inode.Free(t.log, t.layout, n)
	})
	return e
}
