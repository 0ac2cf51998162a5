package kern

import (
	"parapet/api"
	"parapet/call"
)

const root = 1 // the inode of the directory in which paths begin

// refuse is a call of which layers below told why it can't be done: never, or not yet.
func (r *request) refuse(e api.Errno) outcome {
	switch {
	case e == api.ErrWait, e == api.ErrSpace && len(r.loose) > 0:
		// Behind a commit the log has room, and what is loose is freed.
		r.commit()
		return outcome{}
	case e == api.ErrRange: // of a directory, which can't have more entries
		return fails(api.ENOSPC)
	}
	return fails(call.Errno(e))
}

// commit goes on with a commit, by one operation of the disk; one begins, if none runs and there is something to be written.
func (k *kernel) commit() {
	k.fs.Log().Start()
	k.fs.Log().Step()
}

// done is a call that is told 0, or what refuses it.
func (r *request) done(e api.Errno) outcome {
	if e != api.OK {
		return r.refuse(e)
	}
	return tells(0)
}

func (k *kernel) isDir(n int) bool {
	x, e := k.fs.Stat(n)
	return e == api.OK && x.Kind == api.InodeDir
}

// isRoot tells whether a path leads to the root. It may be, so it needs no more than slashes.
func (k *kernel) isRoot(path string) bool {
	n, e := k.fs.Walk(path)
	return e == api.OK && n == root
}

func (r *request) open() outcome {
	if r.b >= openEnd {
		return fails(api.EINVAL)
	}
	path, errno := r.path(r.a)
	switch {
	case errno != 0:
		return fails(errno)
	case r.p.fds.Free() == 0:
		return fails(api.EMFILE)
	case len(r.files.All()) == api.MaxOpen:
		return fails(api.ENFILE)
	}
	n, e := r.fs.Walk(path)
	switch {
	case e == api.ErrNone && r.b&openNew != 0:
		n, e = r.fs.Create(path)
	case e == api.OK && r.isDir(n):
		return r.openDir()
	case e == api.OK && r.b&openBare != 0:
		e = r.fs.Truncate(n, 0)
	}
	if e != api.OK {
		return r.refuse(e)
	}
	if r.files.On(api.FileInode, n) == 0 {
		r.hold(r.t.tid, r.p.pid, holding{api.KindInode, n})
	}
	return tells(r.install(api.FileInode, n, toRead|toWrite))
}

func (r *request) openDir() outcome {
	if r.b != 0 {
		return fails(api.EISDIR)
	}
	return tells(r.install(api.FileInode, 0, toRead|toWrite|ofDir))
}

func (r *request) mkdir() outcome {
	path, errno := r.path(r.a)
	if errno != 0 {
		return fails(errno)
	}
	if r.isRoot(path) {
		return fails(api.EEXIST)
	}
	_, e := r.fs.Mkdir(path)
	return r.done(e)
}

func (r *request) unlink() outcome {
	path, errno := r.path(r.a)
	if errno != 0 {
		return fails(errno)
	}
	if r.isRoot(path) {
		return fails(api.EBUSY)
	}
	n, _, e := r.fs.Unlink(path)
	if e == api.OK {
		r.unused(n)
	}
	return r.done(e)
}

func (r *request) link() outcome {
	a, b, errno := r.paths()
	if errno != 0 {
		return fails(errno)
	}
	n, e := r.fs.Walk(a)
	switch {
	case e != api.OK:
		return r.refuse(e)
	case r.isDir(n):
		return fails(api.EISDIR)
	case r.isRoot(b):
		return fails(api.EEXIST)
	}
	return r.done(r.fs.Link(a, b))
}

func (r *request) rename() outcome {
	a, b, errno := r.paths()
	if errno != 0 {
		return fails(errno)
	}
	if r.isRoot(a) || r.isRoot(b) {
		return fails(api.EBUSY)
	}
	n, _, e := r.fs.Rename(a, b)
	if e == api.OK && n != 0 {
		r.unused(n)
	}
	return r.done(e)
}

// sync is told when nothing waits to be written any more; who comes while a commit runs goes on with it.
func (r *request) sync() outcome {
	r.commit()
	if r.fs.Log().Running() {
		return outcome{}
	}
	return tells(0)
}

// unused lets an inode go that lost a name, or an open file, if it has neither any more.
func (k *kernel) unused(n int) {
	if k.files.On(api.FileInode, n) > 0 {
		return
	}
	k.drop(holding{api.KindInode, n})
	k.loose = append(k.loose, n)
	k.release()
}

// release frees what is loose, as far as the log has room. Till then nobody can reach it, and a boot would free it, too.
func (k *kernel) release() {
	for len(k.loose) > 0 {
		n := k.loose[0]
		// A number that was freed in another way may be an open file's again.
		if k.files.On(api.FileInode, n) == 0 {
			if _, e := k.fs.Release(n); e == api.ErrWait {
				return
			}
		}
		k.loose = k.loose[1:]
	}
}
