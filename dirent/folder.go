package dirent

import (
	"slices"
	"strings"

	"parapet/api"
	"parapet/inode"
)

const (
	nameAt    = 2 // of a slot, behind the inode's number
	slotBytes = nameAt + api.MaxName
)

// slot is an entry's bytes.
type slot [slotBytes]byte

// folder is a directory that was read.
type folder struct {
	store  api.Store
	layout api.Layout
	dir    int
	slots  []api.Entry    // of a free slot: none
	at     map[string]int // in which slot a name stands
}

// openFor reads a directory in which a name is asked for.
func openFor(s api.Store, l api.Layout, dir int, name string) (*folder, api.Errno) {
	if e := Check(name); e != api.OK {
		return nil, e
	}
	return open(s, l, dir)
}

func open(s api.Store, l api.Layout, dir int) (*folder, api.Errno) {
	x, e := inode.Get(s, l, dir)
	if e != api.OK {
		return nil, e
	}
	if x.Kind != api.InodeDir {
		return nil, api.ErrDir
	}
	b, e := inode.Read(s, l, dir, 0, x.Size)
	if e != api.OK {
		return nil, e
	}
	f := &folder{store: s, layout: l, dir: dir, at: map[string]int{}}
	if len(b)%slotBytes != 0 {
		return nil, api.ErrDirent
	}
	for part := range slices.Chunk(b, slotBytes) {
		if !f.read(slot(part)) {
			return nil, api.ErrDirent
		}
	}
	return f, api.OK
}

// read takes the next slot in, if it is right.
func (f *folder) read(x slot) bool {
	if x == (slot{}) {
		f.slots = append(f.slots, api.Entry{})
		return true
	}
	y := unpack(x)
	_, twice := f.at[y.Name]
	if twice || !f.hasInode(y.Inode) || Check(y.Name) != api.OK {
		return false
	}
	f.at[y.Name] = len(f.slots)
	f.slots = append(f.slots, y)
	return true
}

// hasInode tells whether the layout has an inode of a number.
func (f *folder) hasInode(n int) bool {
	return n >= 1 && n <= f.layout.Inodes
}

// room is the first slot that is free, or the one behind the others.
func (f *folder) room() int {
	if at := slices.Index(f.slots, api.Entry{}); at >= 0 {
		return at
	}
	return len(f.slots)
}

// entries is what stands in the slots that are not free.
func (f *folder) entries() []api.Entry {
	return slices.DeleteFunc(slices.Clone(f.slots), func(x api.Entry) bool { return x == api.Entry{} })
}

// replace lets something else stand in a name's slot, and tells the number that it had.
func (f *folder) replace(name string, x api.Entry) (int, api.Errno) {
	at, ok := f.at[name]
	if !ok {
		return 0, api.ErrNone
	}
	if e := f.write(at, x); e != api.OK {
		return 0, e
	}
	return f.slots[at].Inode, api.OK
}

// write lets an entry, or none, stand in a slot.
func (f *folder) write(at int, x api.Entry) api.Errno {
	b := pack(x)
	return inode.Write(f.store, f.layout, f.dir, at*slotBytes, b[:])
}

func pack(x api.Entry) slot {
	b := slot{byte(x.Inode), byte(x.Inode >> 8)}
	copy(b[nameAt:], x.Name)
	return b
}

// unpack is a slot's entry; a name with bytes 0 in it, which may not be, has them still.
func unpack(b slot) api.Entry {
	return api.Entry{
		Name:  strings.TrimRight(string(b[nameAt:]), "\x00"),
		Inode: int(b[0]) | int(b[1])<<8,
	}
}
