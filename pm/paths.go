package pm

import (
	"slices"

	"parapet/api"
	"parapet/namec"
)

// The flags of open.
const (
	openNew  = 1 << iota // what is not there is made
	openBare             // its bytes are gone
	openEnd              // no flag is as great
)

// path is the names of the path at an address.
func (r *request) path(at uint32) (names []string, errno int) {
	var b []byte
	for i := range uint32(api.MaxPath + 1) {
		x, ok := r.p.pages.bytes(at+i, 1)
		if !ok {
			return nil, api.EFAULT
		}
		if x[0] == 0 {
			return split(string(b))
		}
		b = append(b, x[0])
	}
	return nil, api.ENAMETOOLONG
}

func split(path string) (names []string, errno int) {
	names, e := namec.Split(path)
	if e != api.OK {
		return nil, api.EINVAL
	}
	return names, 0
}

// paths is the names of the paths at a and at b.
func (r *request) paths() (a, b []string, errno int) {
	if a, errno = r.path(r.a); errno != 0 {
		return nil, nil, errno
	}
	if b, errno = r.path(r.b); errno != 0 {
		return nil, nil, errno
	}
	return a, b, 0
}

// taken is the place of the last of some names, and the node that must be there.
func (w *World) taken(names []string) (at api.Name, n, errno int) {
	at, n, errno = w.spot(names)
	if errno == 0 && n == 0 {
		errno = api.ENOENT
	}
	return at, n, errno
}

// vacant is the place of the last of some names, at which nothing may be.
func (w *World) vacant(names []string) (at api.Name, errno int) {
	if len(names) == 0 { // the root
		return api.Name{}, api.EEXIST
	}
	at, n, errno := w.spot(names)
	if errno == 0 && n != 0 {
		errno = api.EEXIST
	}
	return at, errno
}

func (r *request) open() outcome {
	if r.b >= openEnd {
		return fails(api.EINVAL)
	}
	names, errno := r.path(r.a)
	switch {
	case errno != 0:
		return fails(errno)
	case r.p.free() < 1:
		return fails(api.EMFILE)
	case len(r.w.files) >= api.MaxOpen:
		return fails(api.ENFILE)
	}
	n, errno := r.w.find(names)
	switch {
	case errno == api.ENOENT && r.b&openNew != 0:
		return r.create(names)
	case errno != 0:
		return fails(errno)
	case r.w.nodes[n].dir && r.b != 0:
		return fails(api.EISDIR)
	}
	return tells(r.p.least(), func() {
		if r.b&openBare != 0 {
			r.w.nodes[n].bytes = ""
		}
		r.install(n)
	})
}

// create opens a new file.
func (r *request) create(names []string) outcome {
	at, errno := r.w.vacant(names)
	if errno != 0 {
		return fails(errno)
	}
	return tells(r.p.least(), func() { r.install(r.w.make(at, node{})) })
}

// install lets a descriptor be of a new open file on a node.
func (r *request) install(n int) {
	r.w.install(r.p, api.File{Kind: api.FileInode, What: n, Flags: toRead | toWrite})
}

func (r *request) mkdir() outcome {
	names, errno := r.path(r.a)
	if errno != 0 {
		return fails(errno)
	}
	at, errno := r.w.vacant(names)
	if errno != 0 {
		return fails(errno)
	}
	return tells(0, func() { r.w.make(at, node{dir: true}) })
}

func (r *request) unlink() outcome {
	names, errno := r.path(r.a)
	if errno != 0 {
		return fails(errno)
	}
	if len(names) == 0 {
		return fails(api.EBUSY)
	}
	at, n, errno := r.w.taken(names)
	if errno != 0 {
		return fails(errno)
	}
	if r.w.nodes[n].size > 0 {
		return fails(api.ENOTEMPTY)
	}
	return tells(0, func() { r.w.unbind(at) })
}

func (r *request) link() outcome {
	a, b, errno := r.paths()
	if errno != 0 {
		return fails(errno)
	}
	n, errno := r.w.find(a)
	if errno != 0 {
		return fails(errno)
	}
	if r.w.nodes[n].dir {
		return fails(api.EISDIR)
	}
	at, errno := r.w.vacant(b)
	if errno != 0 {
		return fails(errno)
	}
	if r.w.nodes[n].links >= mostLinks {
		return fails(api.EMLINK)
	}
	return tells(0, func() { r.w.bind(at, n) })
}

func (r *request) rename() outcome {
	a, b, errno := r.paths()
	if errno != 0 {
		return fails(errno)
	}
	if len(a) == 0 || len(b) == 0 {
		return fails(api.EBUSY)
	}
	from, n, errno := r.w.taken(a)
	if errno != 0 {
		return fails(errno)
	}
	to, was, errno := r.w.spot(b)
	if errno != 0 {
		return fails(errno)
	}
	if r.w.nodes[n].dir && len(b) > len(a) && slices.Equal(b[:len(a)], a) {
		return fails(api.EINVAL)
	}
	if was == n {
		return outcome{}
	}
	if errno := r.w.clash(n, was); errno != 0 {
		return fails(errno)
	}
	return tells(0, func() {
		if was != 0 {
			r.w.unbind(to)
		}
		r.w.bind(to, n)
		r.w.unbind(from)
	})
}

// clash is why a node can't take the place of another one; 0 is none.
func (w *World) clash(n, was int) int {
	if was == 0 {
		return 0
	}
	x, y := w.nodes[n], w.nodes[was]
	switch {
	case y.dir && !x.dir:
		return api.EISDIR
	case x.dir && !y.dir:
		return api.ENOTDIR
	case y.size > 0:
		return api.ENOTEMPTY
	}
	return 0
}
