package fsop

import (
	"parapet/api"
	"parapet/dirent"
	"parapet/inode"
)

// turn is an operation that has begun.
type turn struct {
	*FS
	n, links int        // what it tells
	changed  []api.Name // the entries that came, went, or name something else
	gone     []int      // the directories that went
}

// operate lets an operation be done whole, or not at all. Beside an error the turn is its zero value.
func (f *FS) operate(do func(*turn) api.Errno) (turn, api.Errno) {
	if f.closed() {
		return turn{}, api.ErrClosed
	}
	// In an empty log there is no more room behind a commit.
	full := api.ErrWait
	if len(f.log.Dirty()) == 0 {
		full = api.ErrSpace
	}
	if e := f.log.Begin(); e != api.OK {
		return turn{}, instead(e, api.ErrBusy, api.ErrWait)
	}
	t := turn{FS: f}
	if e := do(&t); e != api.OK {
		f.log.Abort()
		return turn{}, instead(e, api.ErrFull, full)
	}
	if e := f.log.End(); e != api.OK {
		return turn{}, e
	}
	t.forget()
	return t, api.OK
}

// instead is an error, or what is told in the place of one.
func instead(e, of, told api.Errno) api.Errno {
	if e == of {
		return told
	}
	return e
}

// forget lets the cache forget what has changed. An operation that was aborted has changed nothing.
func (t *turn) forget() {
	for _, k := range t.changed {
		t.names.Forget(k)
	}
	for _, n := range t.gone {
		t.names.ForgetDir(n)
	}
}

// parent is where a path's last name stands, or would.
func (t *turn) parent(path string) (api.Name, api.Errno) {
	dir, name, e := t.names.Parent(t.log, t.layout, path)
	if e != api.OK {
		return api.Name{}, e
	}
	return api.Name{Dir: dir, Name: name}, dirent.Check(name)
}

// named is what an entry names; 0, if there is no such entry.
func (t *turn) named(k api.Name) (int, api.Errno) {
	n, e := dirent.Find(t.log, t.layout, k.Dir, k.Name)
	return n, instead(e, api.ErrNone, api.OK)
}

// vacant is the place of an entry that is not there.
func (t *turn) vacant(path string) (api.Name, api.Errno) {
	k, e := t.parent(path)
	if e != api.OK {
		return api.Name{}, e
	}
	n, e := t.named(k)
	if e == api.OK && n != 0 {
		e = api.ErrExist
	}
	return k, e
}

// taken is the place of an entry that is there, and what it names.
func (t *turn) taken(path string) (api.Name, int, api.Errno) {
	k, e := t.parent(path)
	if e != api.OK {
		return api.Name{}, 0, e
	}
	n, e := t.named(k)
	if e == api.OK && n == 0 {
		e = api.ErrNone
	}
	return k, n, e
}

// add lets an entry come.
func (t *turn) add(k api.Name, n int) api.Errno {
	t.changed = append(t.changed, k)
	return dirent.Add(t.log, t.layout, k.Dir, k.Name, n)
}

// change lets an entry name something else.
func (t *turn) change(k api.Name, n int) api.Errno {
	t.changed = append(t.changed, k)
	_, e := dirent.Change(t.log, t.layout, k.Dir, k.Name, n)
	return e
}

// remove lets an entry go.
func (t *turn) remove(k api.Name) api.Errno {
	t.changed = append(t.changed, k)
	_, e := dirent.Remove(t.log, t.layout, k.Dir, k.Name)
	return e
}

// drop lets an inode have an entry fewer, and tells of it: a directory is free then.
func (t *turn) drop(n int) api.Errno {
	x, e := t.Stat(n)
	if e != api.OK {
		return e
	}
	t.n = n
	if x.Kind == api.InodeDir {
		return t.dropDir(n)
	}
	x.Links--
	t.links = x.Links
	return inode.Put(t.log, t.layout, n, x)
}

func (t *turn) dropDir(n int) api.Errno {
	empty, e := dirent.Empty(t.log, t.layout, n)
	if e != api.OK {
		return e
	}
	if !empty {
		return api.ErrNotEmpty
	}
	t.gone = append(t.gone, n)
	return inode.Free(t.log, t.layout, n)
}
