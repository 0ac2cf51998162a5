package pm

import (
	"slices"

	"parapet/api"
	"parapet/image"
	"parapet/namec"
)

const (
	root      = 1 // the first number that is given
	mostLinks = 1<<16 - 1
)

// node is a file or a directory.
type node struct {
	dir   bool
	bytes string // of a file
	links int    // how many names it has
	size  int    // how many names are in it
}

// plant lets the root and all that is placed be there.
func (w *World) plant(files []api.Placed) api.Errno {
	// The root is never without a name.
	w.nodes[w.fresh()] = &node{dir: true, links: 1}
	if len(files) > api.MaxPlaced {
		return api.ErrArg
	}
	for _, x := range files {
		if !w.place(x) {
			return api.ErrArg
		}
	}
	return api.OK
}

// place lets a file or a directory be there, if it may.
func (w *World) place(x api.Placed) bool {
	names, e := namec.Split(x.Path)
	if e != api.OK || len(names) == 0 || x.Dir && x.Bytes != "" || len(x.Bytes) > api.MaxFileSize {
		return false
	}
	at, there, errno := w.spot(names)
	if errno != 0 || there != 0 {
		return false
	}
	w.make(at, node{dir: x.Dir, bytes: x.Bytes})
	return true
}

// boot lets the process 1 be there, with the image at /init, and the console.
func (w *World) boot() api.Errno {
	n, errno := w.find([]string{"init"})
	if errno != 0 {
		return api.ErrImage
	}
	x, e := image.Parse([]byte(w.nodes[n].bytes))
	if e != api.OK {
		return e
	}
	p := w.birth(nobody)
	p.pages = lay(x)
	w.install(p, api.File{Kind: api.FileConsole, Flags: toRead})
	w.install(p, api.File{Kind: api.FileConsole, Flags: toWrite})
	w.start(p, api.Cpu{PC: uint32(x.Entry)})
	return api.OK
}

// find is the node that some names lead to from the root on.
func (w *World) find(names []string) (n, errno int) {
	n = root
	for _, name := range names {
		if !w.nodes[n].dir {
			return 0, api.ENOTDIR
		}
		next, ok := w.names[api.Name{Dir: n, Name: name}]
		if !ok {
			return 0, api.ENOENT
		}
		n = next
	}
	return n, 0
}

// spot is the place of the last of some names, in a directory that must be there, and the node that stands there; 0: none does.
func (w *World) spot(names []string) (at api.Name, n, errno int) {
	last := len(names) - 1
	dir, errno := w.find(names[:last])
	if errno != 0 {
		return api.Name{}, 0, errno
	}
	if !w.nodes[dir].dir {
		return api.Name{}, 0, api.ENOTDIR
	}
	at = api.Name{Dir: dir, Name: names[last]}
	return at, w.names[at], 0
}

// make makes a node with one name.
func (w *World) make(at api.Name, x node) int {
	n := w.fresh()
	w.nodes[n] = &x
	w.bind(at, n)
	return n
}

// bind gives a node a name that nothing has.
func (w *World) bind(at api.Name, n int) {
	w.names[at] = n
	w.nodes[n].links++
	w.nodes[at.Dir].size++
}

// unbind takes a name away, and the node, if that was the last thing that kept it.
func (w *World) unbind(at api.Name) {
	n := w.names[at]
	delete(w.names, at)
	w.nodes[n].links--
	w.nodes[at.Dir].size--
	w.drop(n)
}

// drop forgets a node that has no name, if nobody has it open.
func (w *World) drop(n int) {
	if w.nodes[n].links > 0 {
		return
	}
	for _, f := range w.files {
		if f.Kind == api.FileInode && f.What == n {
			return
		}
	}
	delete(w.nodes, n)
}

// Tree is all files and directories but the root, as one walks.
func (w *World) Tree() []api.Placed {
	if w.closed() {
		return nil
	}
	within := map[int][]string{}
	for at := range w.names {
		within[at.Dir] = append(within[at.Dir], at.Name)
	}
	return w.walk(nil, within, root, "/")
}

// walk puts what is in a directory behind a list; path ends with a slash.
func (w *World) walk(l []api.Placed, within map[int][]string, dir int, path string) []api.Placed {
	for _, name := range slices.Sorted(slices.Values(within[dir])) {
		n := w.names[api.Name{Dir: dir, Name: name}]
		x := w.nodes[n]
		l = append(l, api.Placed{Path: path + name, Dir: x.dir, Bytes: x.bytes})
		if x.dir {
			l = w.walk(l, within, n, path+name+"/")
		}
	}
	return l
}
