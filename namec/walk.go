package namec

import (
	"slices"
	"strings"

	"parapet/api"
	"parapet/dirent"
	"parapet/inode"
)

// root is the inode in which a walk begins.
const root = 1

// Split is a path's names.
func Split(path string) ([]string, api.Errno) {
	if len(path) > api.MaxPath || !strings.HasPrefix(path, "/") || strings.Contains(path, "\x00") {
		return nil, api.ErrPath
	}
	names := strings.FieldsFunc(path, func(c rune) bool { return c == '/' })
	tooLong := func(name string) bool { return len(name) > api.MaxName }
	if len(names) > api.MaxDepth || slices.ContainsFunc(names, tooLong) {
		return nil, api.ErrPath
	}
	return names, api.OK
}

// Walk is a path's inode.
func (c *Cache) Walk(s api.Store, l api.Layout, path string) (int, api.Errno) {
	if c.closed() {
		return 0, api.ErrClosed
	}
	names, e := Split(path)
	if e != api.OK {
		return 0, e
	}
	return c.follow(s, l, names)
}

// Parent is the directory in which a path's last name stands, or would, and that name.
func (c *Cache) Parent(s api.Store, l api.Layout, path string) (int, string, api.Errno) {
	if c.closed() {
		return 0, "", api.ErrClosed
	}
	names, e := Split(path)
	if e != api.OK {
		return 0, "", e
	}
	if len(names) == 0 {
		return 0, "", api.ErrPath
	}
	last := len(names) - 1
	dir, e := c.follow(s, l, names[:last])
	if e != api.OK {
		return 0, "", e
	}
	if e := checkDir(s, l, dir); e != api.OK {
		return 0, "", e
	}
	return dir, names[last], api.OK
}

// follow goes from the root, name by name.
func (c *Cache) follow(s api.Store, l api.Layout, names []string) (int, api.Errno) {
	at := root
	for _, name := range names {
		next, e := c.step(s, l, api.Name{Dir: at, Name: name})
		if e != api.OK {
			return 0, e
		}
		at = next
	}
	return at, api.OK
}

// step is what a name in a directory names.
func (c *Cache) step(s api.Store, l api.Layout, k api.Name) (int, api.Errno) {
	if e := checkDir(s, l, k.Dir); e != api.OK {
		return 0, e
	}
	n, known := c.Look(k)
	if !known {
		found, e := dirent.Find(s, l, k.Dir, k.Name)
		if e != api.OK && e != api.ErrNone {
			return 0, e
		}
		c.Put(k, found)
		n = found
	}
	if n == 0 {
		return 0, api.ErrNone
	}
	return n, api.OK
}

// checkDir tells why one can not stand in an inode. It is asked whatever is kept, so that names in what is no directory any more are not found.
func checkDir(s api.Store, l api.Layout, n int) api.Errno {
	x, e := inode.Get(s, l, n)
	if e != api.OK {
		return e
	}
	if x.Kind != api.InodeDir {
		return api.ErrDir
	}
	return api.OK
}
