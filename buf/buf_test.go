package buf_test

import (
	"bytes"
	"math"
	"slices"
	"testing"

	"parapet/api"
	"parapet/buf"
	"parapet/disk"
)

const size = api.SectorSize

// of is a sector all of whose bytes are x.
func of(x byte) []byte { return bytes.Repeat([]byte{x}, size) }

// makeDisk is a disk whose sector n has all bytes n.
func makeDisk(t *testing.T, count int) *disk.Disk {
	t.Helper()
	var image []byte
	for n := range count {
		image = append(image, of(byte(n))...)
	}
	d, e := disk.Load(image)
	if e != api.OK {
		t.Fatal("Load", e)
	}
	return d
}

// make1 is a cache of a disk of eight sectors.
func make1(t *testing.T, room int) (*buf.Cache, *disk.Disk) {
	t.Helper()
	d := makeDisk(t, 8)
	c, e := buf.New(d, room)
	if e != api.OK || c == nil {
		t.Fatal("New", c, e)
	}
	return c, d
}

// reads reads sectors, each of which ought to have all bytes its number.
func reads(t *testing.T, c *buf.Cache, l ...int) {
	t.Helper()
	for _, n := range l {
		readsOf(t, c, n, byte(n))
	}
}

func readsOf(t *testing.T, c *buf.Cache, n int, x byte) {
	t.Helper()
	if b, e := c.Read(n); e != api.OK || !bytes.Equal(b, of(x)) {
		t.Error("Read", n, e, b)
	}
}

func writes(t *testing.T, c *buf.Cache, n int, x byte) {
	t.Helper()
	if e := c.Write(n, of(x)); e != api.OK {
		t.Error("Write", n, e)
	}
}

// backs writes blocks back that are dirty.
func backs(t *testing.T, c *buf.Cache, l ...int) {
	t.Helper()
	for _, n := range l {
		if ok, e := c.Back(n); !ok || e != api.OK {
			t.Error("Back", n, ok, e)
		}
	}
}

// keeps holds what is kept, in the order.
func keeps(t *testing.T, c *buf.Cache, want ...int) {
	t.Helper()
	if l := c.Kept(); !slices.Equal(l, want) {
		t.Errorf("Kept: %v, not %v", l, want)
	}
}

// dirty holds what is dirty.
func dirty(t *testing.T, c *buf.Cache, want ...int) {
	t.Helper()
	if l := c.Dirty(); !slices.Equal(l, want) {
		t.Errorf("Dirty: %v, not %v", l, want)
	}
}

func counts(t *testing.T, c *buf.Cache, hits, misses, evicted, written int) {
	t.Helper()
	want := api.Buffering{Hits: hits, Misses: misses, Evicted: evicted, Written: written}
	if x := c.Counts(); x != want {
		t.Errorf("Counts: %+v, not %+v", x, want)
	}
}

// diskDid holds what was done to the disk.
func diskDid(t *testing.T, d *disk.Disk, reads, writes int) {
	t.Helper()
	if r, w, f := d.Counts(); r != reads || w != writes || f != 0 {
		t.Error("the disk's Counts", r, w, f, "not", reads, writes)
	}
}

// P15.1

func TestNewOfWhatMayNotBe(t *testing.T) {
	d := makeDisk(t, 8)
	for _, room := range []int{math.MinInt, -1, 0, api.MaxBuffers + 1, math.MaxInt} {
		if c, e := buf.New(d, room); c != nil || e != api.ErrArg {
			t.Error("New", room, c, e)
		}
	}
	for _, room := range []int{0, 1, api.MaxBuffers, api.MaxBuffers + 1} {
		for _, d := range []*disk.Disk{nil, {}} {
			if c, e := buf.New(d, room); c != nil || e != api.ErrArg {
				t.Error("New of no disk", room, c, e)
			}
		}
	}
}

func TestNewKeepsNothing(t *testing.T) {
	d := makeDisk(t, 8)
	for _, room := range []int{1, 2, 8, 9, api.MaxBuffers} {
		c, e := buf.New(d, room)
		if e != api.OK || c == nil {
			t.Fatal("New", room, c, e)
		}
		keeps(t, c)
		dirty(t, c)
		counts(t, c, 0, 0, 0, 0)
	}
	diskDid(t, d, 0, 0)
}

func TestReadKeeps(t *testing.T) {
	c, d := make1(t, 3)
	reads(t, c, 5)
	counts(t, c, 0, 1, 0, 0)
	reads(t, c, 5, 5)
	counts(t, c, 2, 1, 0, 0)
	diskDid(t, d, 1, 0)
	reads(t, c, 0, 7)
	counts(t, c, 2, 3, 0, 0)
	keeps(t, c, 5, 0, 7)
	dirty(t, c)
	diskDid(t, d, 3, 0)
}

// What a cache keeps it does not ask the disk for again.
func TestReadOfWhatIsKept(t *testing.T) {
	c, d := make1(t, 2)
	reads(t, c, 5)
	if e := d.Write(5, of('x')); e != api.OK {
		t.Fatal("Write", e)
	}
	reads(t, c, 5)
	reads(t, c, 1, 2)
	readsOf(t, c, 5, 'x')
}

func TestReadOfWhatIsPending(t *testing.T) {
	c, d := make1(t, 2)
	if e := d.Write(5, of('x')); e != api.OK {
		t.Fatal("Write", e)
	}
	readsOf(t, c, 5, 'x')
	dirty(t, c)
}

func TestNoSuchSector(t *testing.T) {
	c, d := make1(t, 1)
	reads(t, c, 2)
	for _, full := range []bool{false, true} {
		if full {
			writes(t, c, 3, 'x')
		}
		was := c.Counts()
		for _, n := range []int{math.MinInt, -1, 8, 9, api.MaxSectors, math.MaxInt>>8 + 1, math.MaxInt} {
			if b, e := c.Read(n); b != nil || e != api.ErrSector {
				t.Error("Read", n, b, e)
			}
			if e := c.Write(n, of(1)); e != api.ErrSector {
				t.Error("Write", n, e)
			}
			if ok, e := c.Back(n); ok || e != api.OK {
				t.Error("Back", n, ok, e)
			}
		}
		if x := c.Counts(); x != was {
			t.Error("Counts", x, was)
		}
	}
	keeps(t, c, 3)
	dirty(t, c, 3)
	diskDid(t, d, 1, 0)
}

func TestWriteOfNoSector(t *testing.T) {
	c, _ := make1(t, 1)
	writes(t, c, 3, 'x')
	for _, b := range [][]byte{nil, {}, {1}, make([]byte, size-1), make([]byte, size+1), make([]byte, 2*size)} {
		for _, n := range []int{3, 4, -1, 8} {
			if e := c.Write(n, b); e != api.ErrArg {
				t.Error("Write", n, len(b), e)
			}
		}
	}
	readsOf(t, c, 3, 'x')
	keeps(t, c, 3)
	counts(t, c, 1, 0, 0, 0)
}

func TestWriteKeeps(t *testing.T) {
	c, d := make1(t, 3)
	writes(t, c, 5, 'a')
	writes(t, c, 2, 'b')
	writes(t, c, 5, 'c')
	keeps(t, c, 2, 5)
	dirty(t, c, 2, 5)
	counts(t, c, 0, 0, 0, 0)
	readsOf(t, c, 5, 'c')
	readsOf(t, c, 2, 'b')
	counts(t, c, 2, 0, 0, 0)
	diskDid(t, d, 0, 0)
}

func TestWriteOfWhatIsClean(t *testing.T) {
	c, d := make1(t, 2)
	reads(t, c, 5, 6)
	writes(t, c, 5, 'a')
	keeps(t, c, 6, 5)
	dirty(t, c, 5)
	readsOf(t, c, 5, 'a')
	counts(t, c, 1, 2, 0, 0)
	diskDid(t, d, 2, 0)
}

func TestOrder(t *testing.T) {
	c, _ := make1(t, 4)
	reads(t, c, 1, 2, 3, 4)
	keeps(t, c, 1, 2, 3, 4)
	reads(t, c, 2)
	keeps(t, c, 1, 3, 4, 2)
	writes(t, c, 3, 'x')
	keeps(t, c, 1, 4, 2, 3)
	reads(t, c, 1, 1)
	keeps(t, c, 4, 2, 3, 1)
	writes(t, c, 1, 'x')
	keeps(t, c, 4, 2, 3, 1)
	backs(t, c, 3)
	keeps(t, c, 4, 2, 3, 1)
	reads(t, c, 7)
	keeps(t, c, 2, 3, 1, 7)
	writes(t, c, 0, 'x')
	keeps(t, c, 3, 1, 7, 0)
	counts(t, c, 3, 5, 2, 1)
}

func TestRoomIsMadeOfTheFirstCleanOne(t *testing.T) {
	c, _ := make1(t, 3)
	writes(t, c, 1, 'a')
	reads(t, c, 2)
	writes(t, c, 3, 'b')
	reads(t, c, 4)
	keeps(t, c, 1, 3, 4)
	counts(t, c, 0, 2, 1, 0)
	writes(t, c, 5, 'c')
	keeps(t, c, 1, 3, 5)
	counts(t, c, 0, 2, 2, 0)
	dirty(t, c, 1, 3, 5)
}

func TestAllAreDirty(t *testing.T) {
	for room := 1; room < 8; room++ {
		c, d := make1(t, room)
		var all []int
		for n := range room {
			writes(t, c, n, 'x')
			all = append(all, n)
		}
		for n := room; n < 8; n++ {
			if b, e := c.Read(n); b != nil || e != api.ErrDirty {
				t.Error("Read", n, b, e)
			}
			if e := c.Write(n, of(1)); e != api.ErrDirty {
				t.Error("Write", n, e)
			}
		}
		keeps(t, c, all...)
		dirty(t, c, all...)
		counts(t, c, 0, 0, 0, 0)
		diskDid(t, d, 0, 0)
		writes(t, c, 0, 'y')
		readsOf(t, c, 0, 'y')
		backs(t, c, room-1)
		reads(t, c, 7)
		counts(t, c, 1, 1, 1, 1)
	}
}

func TestRoomOfTheMost(t *testing.T) {
	d, e := disk.New(api.MaxSectors)
	if e != api.OK {
		t.Fatal("New", e)
	}
	c, e := buf.New(d, api.MaxBuffers)
	if e != api.OK {
		t.Fatal("New", e)
	}
	for n := range api.MaxBuffers {
		writes(t, c, n, byte(n))
	}
	if e := c.Write(api.MaxBuffers, of(1)); e != api.ErrDirty {
		t.Error("Write", e)
	}
	for n := range api.MaxBuffers {
		backs(t, c, n)
	}
	for n := api.MaxBuffers; n < api.MaxSectors; n++ {
		readsOf(t, c, n, 0)
	}
	if l := c.Kept(); len(l) != api.MaxBuffers || l[0] != api.MaxSectors-api.MaxBuffers {
		t.Error("Kept", len(l), l[0])
	}
	counts(t, c, 0, 3072, 3072, 1024)
}

// P15.2

func TestBack(t *testing.T) {
	c, d := make1(t, 3)
	writes(t, c, 5, 'a')
	writes(t, c, 5, 'b')
	reads(t, c, 2)
	for _, n := range []int{2, 3, 0, 7} {
		if ok, e := c.Back(n); ok || e != api.OK {
			t.Error("Back", n, ok, e)
		}
	}
	diskDid(t, d, 1, 0)
	backs(t, c, 5)
	if ok, e := c.Back(5); ok || e != api.OK {
		t.Error("Back of what is clean", ok, e)
	}
	dirty(t, c)
	keeps(t, c, 5, 2)
	counts(t, c, 0, 1, 0, 1)
	diskDid(t, d, 1, 1)
	if b, _ := d.Read(5); !bytes.Equal(b, of('b')) {
		t.Error("the disk", b)
	}
	if l := d.Pending(); !slices.Equal(l, []int{5}) {
		t.Error("Pending", l)
	}
	readsOf(t, c, 5, 'b')
	writes(t, c, 5, 'c')
	dirty(t, c, 5)
	backs(t, c, 5)
	counts(t, c, 1, 1, 0, 2)
}

// A disk without power tells OK, and so does the cache.
func TestBackWithoutPower(t *testing.T) {
	c, d := make1(t, 1)
	writes(t, c, 5, 'a')
	d.Stop(0)
	backs(t, c, 5)
	dirty(t, c)
	counts(t, c, 0, 0, 0, 1)
	readsOf(t, c, 5, 'a')
	reads(t, c, 1, 5)
}

func TestDirtyRises(t *testing.T) {
	c, _ := make1(t, 8)
	for _, n := range []int{6, 0, 3, 7, 1} {
		writes(t, c, n, 'x')
	}
	reads(t, c, 2, 5)
	dirty(t, c, 0, 1, 3, 6, 7)
	keeps(t, c, 6, 0, 3, 7, 1, 2, 5)
	backs(t, c, 3)
	dirty(t, c, 0, 1, 6, 7)
}

func TestForget(t *testing.T) {
	c, d := make1(t, 6)
	if n := c.Forget(); n != 0 {
		t.Error("Forget of nothing", n)
	}
	reads(t, c, 1, 2)
	writes(t, c, 6, 'a')
	reads(t, c, 3)
	writes(t, c, 0, 'b')
	writes(t, c, 5, 'c')
	backs(t, c, 5)
	if n := c.Forget(); n != 4 {
		t.Error("Forget", n)
	}
	keeps(t, c, 6, 0)
	dirty(t, c, 0, 6)
	counts(t, c, 0, 3, 0, 1)
	if n := c.Forget(); n != 0 {
		t.Error("Forget of what is dirty", n)
	}
	readsOf(t, c, 6, 'a')
	readsOf(t, c, 5, 'c')
	reads(t, c, 1)
	keeps(t, c, 0, 6, 5, 1)
	counts(t, c, 1, 5, 0, 1)
	diskDid(t, d, 5, 1)
}

func TestOfNoCache(t *testing.T) {
	for _, c := range []*buf.Cache{nil, {}} {
		for _, n := range []int{-1, 0, 1} {
			if b, e := c.Read(n); b != nil || e != api.ErrClosed {
				t.Error("Read", b, e)
			}
			if e := c.Write(n, of(1)); e != api.ErrClosed {
				t.Error("Write", e)
			}
			if e := c.Write(n, nil); e != api.ErrClosed {
				t.Error("Write of nil", e)
			}
			if ok, e := c.Back(n); ok || e != api.ErrClosed {
				t.Error("Back", ok, e)
			}
		}
		if len(c.Dirty()) != 0 || len(c.Kept()) != 0 || c.Forget() != 0 {
			t.Error("Dirty, Kept, Forget")
		}
		counts(t, c, 0, 0, 0, 0)
	}
}

// R3

func TestWhatIsHandedInIsNotKept(t *testing.T) {
	c, d := make1(t, 2)
	room := bytes.Repeat([]byte{'a'}, 2*size)
	b := room[:size]
	if e := c.Write(5, b); e != api.OK {
		t.Error("Write", e)
	}
	if !bytes.Equal(room, bytes.Repeat([]byte{'a'}, 2*size)) {
		t.Error("Write has changed what came in")
	}
	b[0] = 'b'
	readsOf(t, c, 5, 'a')
	backs(t, c, 5)
	b[1] = 'b'
	readsOf(t, c, 5, 'a')
	if x, _ := d.Read(5); !bytes.Equal(x, of('a')) {
		t.Error("the disk", x)
	}
}

func TestAnswersAreNewMemory(t *testing.T) {
	c, _ := make1(t, 4)
	for range 2 { // a miss and a hit
		b, _ := c.Read(5)
		clear(b[:cap(b)])
		reads(t, c, 5)
	}
	writes(t, c, 6, 6)
	b, _ := c.Read(6)
	clear(b[:cap(b)])
	writes(t, c, 2, 'x')
	was := c.Kept()
	for _, l := range [][]int{c.Kept(), c.Dirty()} {
		clear(l[:cap(l)])
	}
	reads(t, c, 6, 5)
	keeps(t, c, 2, 6, 5)
	dirty(t, c, 2, 6)
	if !slices.Equal(was, []int{5, 6, 2}) {
		t.Error("Kept has changed", was)
	}
}

func TestExample(t *testing.T) {
	c, _ := make1(t, 2)
	reads(t, c, 1, 2, 1, 3)
	keeps(t, c, 1, 3)
	writes(t, c, 1, 'x')
	writes(t, c, 3, 'y')
	if b, e := c.Read(4); b != nil || e != api.ErrDirty {
		t.Error("Read", b, e)
	}
}
