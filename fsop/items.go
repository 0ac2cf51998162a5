package fsop

import (
	"cmp"
	"slices"
	"strings"

	"parapet/api"
	"parapet/dirent"
)

// listing is what has been found on the way through the directories.
type listing struct {
	*FS
	items []api.Item
	met   []bool   // of each inode: is it a directory in which one has been?
	data  []string // of each inode: a file's bytes, so that those with many names are read once
}

// Items is all that has a path.
func (f *FS) Items() ([]api.Item, api.Errno) {
	if f.closed() {
		return nil, api.ErrClosed
	}
	count := f.layout.Inodes + 1
	l := &listing{FS: f, met: make([]bool, count), data: make([]string, count)}
	if e := l.find("", root); e != api.OK {
		return nil, e
	}
	slices.SortFunc(l.items, func(a, b api.Item) int { return strings.Compare(a.Path, b.Path) })
	return l.items, api.OK
}

// find takes in what stands at a path (the root's is empty here), and below it.
func (l *listing) find(path string, n int) api.Errno {
	x, e := l.Stat(n)
	if e != api.OK {
		return e
	}
	item := api.Item{Path: cmp.Or(path, "/"), Inode: n, Kind: x.Kind, Links: x.Links}
	if x.Kind == api.InodeFile {
		if item.Data, e = l.text(n, x.Size); e != api.OK {
			return e
		}
	}
	l.items = append(l.items, item)
	if x.Kind == api.InodeDir {
		return l.enter(path, n)
	}
	return api.OK
}

// enter finds what is in a directory. One in which one has been is refused: in a circle paths have no end.
func (l *listing) enter(path string, dir int) api.Errno {
	if l.met[dir] {
		return api.ErrVolume
	}
	l.met[dir] = true
	entries, e := dirent.List(l.log, l.layout, dir)
	if e != api.OK {
		return e
	}
	for _, x := range entries {
		if e := l.find(path+"/"+x.Name, x.Inode); e != api.OK {
			return e
		}
	}
	return api.OK
}

func (l *listing) text(n, size int) (string, api.Errno) {
	if l.data[n] == "" {
		b, e := l.Read(n, 0, size)
		if e != api.OK {
			return "", e
		}
		l.data[n] = string(b)
	}
	return l.data[n], api.OK
}
