package fdtab

import (
	"slices"

	"parapet/api"
)

// nothing is what a free descriptor names.
const nothing = -1

// Table is descriptors.
type Table struct {
	files *Files
	names [api.MaxFds]int // of each descriptor: the number of an open file, which it keeps though others drop its Ref
}

// Install lets the least free descriptor name an open file; the caller's Ref is the descriptor's from then on.
func (t *Table) Install(id int) (int, api.Errno) {
	if t.closed() {
		return 0, api.ErrClosed
	}
	if !t.files.has(id) {
		return 0, api.ErrFile
	}
	fd := slices.Index(t.names[:], nothing)
	if fd < 0 {
		return 0, api.ErrFull
	}
	t.names[fd] = id
	return fd, api.OK
}

// Get is the number of the open file that a descriptor names.
func (t *Table) Get(fd int) (int, api.Errno) {
	if t.closed() {
		return 0, api.ErrClosed
	}
	if fd < 0 || fd >= api.MaxFds || t.names[fd] == nothing {
		return 0, api.ErrFd
	}
	return t.names[fd], api.OK
}

// Dup lets the least free descriptor name the same as another one.
func (t *Table) Dup(fd int) (int, api.Errno) {
	id, e := t.Get(fd)
	if e != api.OK {
		return 0, e
	}
	other, e := t.Install(id)
	if e != api.OK {
		return 0, e
	}
	t.files.share(id)
	return other, api.OK
}

// Close lets a descriptor name none, whatever Drop tells of what it named.
func (t *Table) Close(fd int) (api.File, bool, api.Errno) {
	id, e := t.Get(fd)
	if e != api.OK {
		return api.File{}, false, e
	}
	t.names[fd] = nothing
	return t.files.Drop(id)
}

// Fork is another table with the same descriptors.
func (t *Table) Fork() (*Table, api.Errno) {
	if t.closed() {
		return nil, api.ErrClosed
	}
	for _, id := range t.names {
		// A number whose open file is closed has no Refs.
		if t.files.has(id) {
			t.files.share(id)
		}
	}
	return &Table{files: t.files, names: t.names}, api.OK
}

// Fds is the descriptors that name an open file, rising.
func (t *Table) Fds() []int {
	if t.closed() {
		return nil
	}
	var l []int
	for fd, id := range t.names {
		if id != nothing {
			l = append(l, fd)
		}
	}
	return l
}

// Free is how many do not.
func (t *Table) Free() int {
	if t.closed() {
		return 0
	}
	return api.MaxFds - len(t.Fds())
}

// closed tells whether no call of this package made t.
func (t *Table) closed() bool {
	return t == nil || t.files == nil
}
