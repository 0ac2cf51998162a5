package namec_test

import (
	"slices"
	"testing"

	"parapet/api"
	"parapet/dirent"
	"parapet/disk"
	"parapet/inode"
	"parapet/namec"
)

// dice are numbers that are the same in each run.
type dice uint64

func (d *dice) below(n int) int {
	*d = *d*6364136223846793005 + 1442695040888963407
	return int(uint64(*d)>>33) % n
}

// kept is what the model keeps under a name.
type kept struct {
	name   api.Name
	inode  int
	number int
}

// model is a cache as the chapter tells it: a list.
type model struct {
	room  int
	list  []kept
	made  int
	waits []int
}

// drop lets go all that is asked for, in order, and tells how many those were.
func (m *model) drop(asked func(kept) bool) int {
	n := 0
	var stay []kept
	for _, x := range m.list {
		if asked(x) {
			m.waits = append(m.waits, x.number)
			n++
		} else {
			stay = append(stay, x)
		}
	}
	m.list = stay
	return n
}

func (m *model) put(k api.Name, n int) {
	m.drop(func(x kept) bool { return x.name == k })
	if len(m.list) == m.room {
		first := m.list[0].name
		m.drop(func(x kept) bool { return x.name == first })
	}
	m.made++
	m.list = append(m.list, kept{k, n, m.made})
}

func (m *model) names() []api.Name {
	var l []api.Name
	for _, x := range m.list {
		l = append(l, x.name)
	}
	return l
}

func (m *model) look(k api.Name) (int, bool) {
	for _, x := range m.list {
		if x.name == k {
			return x.inode, true
		}
	}
	return 0, false
}

func TestAgainstModel(t *testing.T) {
	r := dice(19)
	for _, room := range []int{1, 2, 3, 8, 40} {
		c, domain := make1(t, room)
		m := &model{room: room}
		for range 1500 {
			k := name(r.below(4), string([]byte{byte('a' + r.below(6))}))
			switch r.below(12) {
			case 0, 1:
				if ok, want := c.Forget(k), m.drop(func(x kept) bool { return x.name == k }) > 0; ok != want {
					t.Fatal("Forget", k, ok)
				}
			case 2:
				if n, want := c.ForgetDir(k.Dir), m.drop(func(x kept) bool { return x.name.Dir == k.Dir }); n != want {
					t.Fatal("ForgetDir", k, n, want)
				}
			default:
				n := r.below(3)
				puts(t, c, k, n)
				m.put(k, n)
			}
			n, ok := c.Look(k)
			if want, there := m.look(k); n != want || ok != there {
				t.Fatal("Look", k, n, ok, want)
			}
			if !slices.Equal(c.Kept(), m.names()) || !slices.Equal(domain.Waiting(), m.waits) {
				t.Fatal("Kept", c.Kept(), m.names(), "Waiting", domain.Waiting(), m.waits)
			}
		}
	}
}

// plain walks without a cache, by the lists of directories.
func plain(t *testing.T, s api.Store, path string) (int, api.Errno) {
	t.Helper()
	names, e := namec.Split(path)
	if e != api.OK {
		return 0, e
	}
	at := 1
	for _, name := range names {
		l, e := dirent.List(s, example, at)
		if e != api.OK {
			return 0, e
		}
		i := slices.IndexFunc(l, func(x api.Entry) bool { return x.Name == name })
		if i < 0 {
			return 0, api.ErrNone
		}
		at = l[i].Inode
	}
	return at, api.OK
}

// path is one of some names, of some depth.
func (d *dice) path() string {
	path := ""
	for range d.below(5) {
		path += "/" + string([]byte{byte('a' + d.below(4))})
	}
	return path + "/"
}

// changeOne changes a directory by dice, and lets the cache forget what it must.
func changeOne(r *dice, s api.Store, c *namec.Cache) {
	k := name(1+r.below(example.Inodes), string([]byte{byte('a' + r.below(4))}))
	n := 1 + r.below(example.Inodes)
	switch r.below(6) {
	case 0, 1:
		dirent.Add(s, example, k.Dir, k.Name, n)
		c.Forget(k)
	case 2:
		dirent.Remove(s, example, k.Dir, k.Name)
		c.Forget(k)
	case 3:
		dirent.Change(s, example, k.Dir, k.Name, n)
		c.Forget(k)
	case 4:
		// One that goes may be of another kind when it comes again.
		if k.Dir != 1 {
			inode.Free(s, example, k.Dir)
			c.ForgetDir(k.Dir)
		}
	case 5:
		inode.Alloc(s, example, api.InodeFile+r.below(2))
	}
}

// P19.4: if whoever changes a directory Forgets, walks tell what they would without a cache.
func TestWalksAsWithoutACache(t *testing.T) {
	r := dice(194)
	told := map[api.Errno]int{}
	for _, room := range []int{1, 2, 5, 20, 4096} {
		d, _ := disk.New(example.Sectors)
		inode.Format(d, example)
		c, _ := make1(t, room)
		inode.Alloc(d, example, api.InodeDir)
		for range 3000 {
			changeOne(&r, d, c)
			path := r.path()
			n, e := c.Walk(d, example, path)
			if want, we := plain(t, d, path); n != want || e != we {
				t.Fatalf("Walk %q: %d, %d, not %d, %d", path, n, e, want, we)
			}
			told[e]++
			if len(c.Kept()) > room {
				t.Fatal("Kept", len(c.Kept()), "of", room)
			}
		}
	}
	for _, e := range []api.Errno{api.OK, api.ErrNone, api.ErrDir} {
		if told[e] < 100 {
			t.Error("hardly ever:", e, told[e])
		}
	}
}

// R1: whatever bytes a volume has, and whatever a path is.
func TestNothingPanics(t *testing.T) {
	r := dice(191)
	for range 300 {
		d := volume(t)
		for range 1 + r.below(20) {
			n := 9 + r.below(8)
			b, _ := d.Read(n)
			b[r.below(len(b))] = byte(r.below(256))
			d.Write(n, b)
		}
		c, _ := make1(t, 1+r.below(4))
		for range 10 {
			path := []string{"/d/e", "/d/f", "/g", "/w/x", "/./../d", r.path()}[r.below(6)]
			c.Walk(d, example, path)
			c.Parent(d, example, path)
		}
		b := make([]byte, r.below(80))
		for i := range b {
			b[i] = "/ab\x00\xff"[r.below(5)]
		}
		namec.Split(string(b))
		c.Walk(d, example, string(b))
	}
}
