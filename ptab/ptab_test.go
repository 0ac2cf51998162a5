package ptab_test

import (
	"bytes"
	"maps"
	"math"
	"slices"
	"testing"

	"parapet/api"
	"parapet/phys"
	"parapet/ptab"
)

const (
	frames = 12
	root   = 5

	valid = api.PteValid
	write = api.PteValid | api.PteWrite
	cow   = api.PteValid | api.PteCow

	// farFrame is a frame whose address, worked out in an int, would wrap round to 0.
	farFrame = math.MaxInt>>7 + 1
)

var (
	noPages  = []int{math.MinInt, -256, -64, -1, 256, 257, 320, 1 << 32, math.MaxInt}
	noFrames = []int{math.MinInt, -1, frames, api.MaxFrames, 1 << 24, farFrame, math.MaxInt}
)

// noise is a memory none of whose bytes is 0: whatever is 0 then has been made so.
func noise(t *testing.T) *phys.Mem {
	t.Helper()
	m, e := phys.New(frames)
	if e != api.OK {
		t.Fatal("phys.New", e)
	}
	b := make([]byte, frames*api.PageSize)
	for i := range b {
		b[i] = byte(1 + i%255)
	}
	m.Write(0, b)
	return m
}

func make1(t *testing.T) (*phys.Mem, *ptab.Table) {
	t.Helper()
	m := noise(t)
	p, e := ptab.New(m, root)
	if e != api.OK || p == nil {
		t.Fatal("New", p, e)
	}
	return m, p
}

func all(m *phys.Mem) []byte {
	b, _ := m.Read(0, m.Frames()*api.PageSize)
	return b
}

// kept holds a memory against what it was.
func kept(t *testing.T, m *phys.Mem, was []byte) {
	t.Helper()
	if !bytes.Equal(all(m), was) {
		t.Error("the memory has changed")
	}
}

// sets sets an entry, and holds it against whether the spare frame is a leaf then.
func sets(t *testing.T, p *ptab.Table, page int, entry uint32, spare int, leaf bool) {
	t.Helper()
	if got, e := p.Set(page, entry, spare); got != leaf || e != api.OK {
		t.Errorf("Set(%d, %x, %d): %v %v", page, entry, spare, got, e)
	}
}

// gets holds a page's entry, as Get and Walk tell it.
func gets(t *testing.T, m *phys.Mem, p *ptab.Table, page int, want uint32) {
	t.Helper()
	if got, e := p.Get(page); got != want || e != api.OK {
		t.Errorf("Get(%d): %x %v, not %x", page, got, e, want)
	}
	if got := ptab.Walk(m, p.Root(), page); got != want {
		t.Errorf("Walk(%d): %x, not %x", page, got, want)
	}
}

// P5.1

func TestPack(t *testing.T) {
	for _, c := range []struct {
		frame, flags int
		want         uint32
	}{
		{0, 0, 0},
		{9, 3, 0x903},
		{0, 255, 0xff},
		{4095, 5, 0xfff05},
		{1<<24 - 1, 0, 0xffffff00},
		{1 << 24, 7, 7},
		{3, 256, 0x300},
		{2, 257, 0x301},
		{-1, 0, 0xffffff00},
		{0, -1, 0xffffffff},
		{math.MinInt, 1, 1},
		{math.MaxInt, math.MaxInt, 0xffffffff},
	} {
		if got := ptab.Pack(c.frame, c.flags); got != c.want {
			t.Errorf("Pack(%d, %d): %x, not %x", c.frame, c.flags, got, c.want)
		}
	}
}

func TestParts(t *testing.T) {
	for _, c := range []struct {
		entry        uint32
		frame, flags int
	}{
		{0, 0, 0},
		{0x903, 9, 3},
		{0xff, 0, 255},
		{0x100, 1, 0},
		{0x80000080, 0x800000, 128},
		{math.MaxUint32, 1<<24 - 1, 255},
	} {
		if f, g := ptab.Frame(c.entry), ptab.Flags(c.entry); f != c.frame || g != c.flags {
			t.Errorf("%x: frame %d, flags %d", c.entry, f, g)
		}
	}
}

func TestNewOfNone(t *testing.T) {
	for _, r := range []int{-1, 0, frames} {
		if p, e := ptab.New(nil, r); p != nil || e != api.ErrArg {
			t.Error("of no memory", p, e)
		}
	}
	m := noise(t)
	was := all(m)
	for _, r := range noFrames {
		if p, e := ptab.New(m, r); p != nil || e != api.ErrAddr {
			t.Error("root", r, p, e)
		}
	}
	kept(t, m, was)
}

func TestNewHasNoEntries(t *testing.T) {
	for _, r := range []int{0, root, frames - 1} {
		m := noise(t)
		want := all(m)
		clear(want[r*api.PageSize : (r+1)*api.PageSize])
		p, e := ptab.New(m, r)
		if e != api.OK || p.Root() != r {
			t.Fatal("New", r, e, p.Root())
		}
		kept(t, m, want)
		for page := range api.Pages {
			gets(t, m, p, page, 0)
			if !p.Needs(page) {
				t.Error("Needs", page)
			}
		}
		if len(p.Leaves()) != 0 || len(maps.Collect(p.All())) != 0 {
			t.Error("Leaves, All", p.Leaves())
		}
	}
}

func TestNewForgetsWhatTheRootHad(t *testing.T) {
	m, p := make1(t)
	sets(t, p, 3, ptab.Pack(1, valid), 6, true)
	q, e := ptab.New(m, root)
	if e != api.OK || !q.Needs(3) {
		t.Error("New", e)
	}
	gets(t, m, q, 3, 0)
}

// P5.2

func TestNeeds(t *testing.T) {
	_, p := make1(t)
	for i, spare := range []int{6, 0, 11, 7} {
		first := 64 * i
		for _, page := range []int{first, first + 1, first + 63} {
			if !p.Needs(page) {
				t.Error("without a leaf", page)
			}
		}
		sets(t, p, first+i, ptab.Pack(1, valid), spare, true)
		for page := range api.Pages {
			if p.Needs(page) != (page >= first+64) {
				t.Error("leaves", i, "page", page)
			}
		}
	}
	sets(t, p, 64, 0, -1, false)
	sets(t, p, 65, 0, -1, false)
	if p.Needs(64) {
		t.Error("a leaf without entries is gone")
	}
}

func TestNeedsOfNoPage(t *testing.T) {
	_, p := make1(t)
	for _, page := range noPages {
		if p.Needs(page) {
			t.Error("Needs", page)
		}
	}
}

func TestSetTakesTheSpareFrame(t *testing.T) {
	m, p := make1(t)
	want := all(m)
	sets(t, p, 65, ptab.Pack(9, write), 4, true)
	clear(want[4*api.PageSize : 5*api.PageSize])
	copy(want[root*api.PageSize+4:], "\x01\x04\x00\x00")
	copy(want[4*api.PageSize+4:], "\x03\x09\x00\x00")
	kept(t, m, want)
	gets(t, m, p, 65, ptab.Pack(9, write))
	sets(t, p, 127, ptab.Pack(11, cow), 8, false)
	copy(want[4*api.PageSize+252:], "\x05\x0b\x00\x00")
	kept(t, m, want)
}

// Where there is a leaf the spare frame is not asked for, whatever it is.
func TestSetWithoutASpareFrame(t *testing.T) {
	m, p := make1(t)
	sets(t, p, 0, ptab.Pack(1, valid), 6, true)
	for i, spare := range noFrames {
		sets(t, p, i+1, ptab.Pack(i, valid), spare, false)
		gets(t, m, p, i+1, ptab.Pack(i, valid))
	}
	sets(t, p, 63, ptab.Pack(2, valid), 7, false)
	if !slices.Equal(p.Leaves(), []int{6}) {
		t.Error("Leaves", p.Leaves())
	}
}

func TestSetAnewAndToNone(t *testing.T) {
	m, p := make1(t)
	for i, entry := range []uint32{ptab.Pack(1, write), ptab.Pack(1, cow), ptab.Pack(2, valid), 0, ptab.Pack(0, valid)} {
		sets(t, p, 200, entry, 6, i == 0)
		gets(t, m, p, 200, entry)
	}
	gets(t, m, p, 199, 0)
	gets(t, m, p, 201, 0)
}

func TestSetToNoneWithoutALeaf(t *testing.T) {
	m, p := make1(t)
	was := all(m)
	for _, spare := range []int{math.MinInt, -1, 6, frames, math.MaxInt} {
		sets(t, p, 7, 0, spare, false)
	}
	kept(t, m, was)
	if !p.Needs(7) {
		t.Error("Needs")
	}
}

// refuses holds that Set tells an error, and changes nothing.
func refuses(t *testing.T, m *phys.Mem, p *ptab.Table, page int, entry uint32, spare int, want api.Errno) {
	t.Helper()
	was := all(m)
	if leaf, e := p.Set(page, entry, spare); leaf || e != want {
		t.Errorf("Set(%d, %x, %d): %v %v, not %v", page, entry, spare, leaf, e, want)
	}
	kept(t, m, was)
}

// wrongEntries is entries that may not be.
func wrongEntries() []uint32 {
	l := []uint32{
		ptab.Pack(9, 0), 1 << 8, math.MaxUint32,
		ptab.Pack(9, api.PteWrite), ptab.Pack(9, api.PteCow), ptab.Pack(9, api.PteWrite|api.PteCow), ptab.Pack(9, write|cow),
		2, 4, 6, 7, 8, 0x80,
		ptab.Pack(frames, valid), ptab.Pack(api.MaxFrames, valid), ptab.Pack(1<<23, valid), ptab.Pack(1<<24-1, write),
	}
	for bit := 3; bit < 8; bit++ {
		l = append(l, ptab.Pack(9, valid|1<<bit), ptab.Pack(9, write|1<<bit), 1<<bit)
	}
	return l
}

func TestSetRefuses(t *testing.T) {
	m, p := make1(t)
	sets(t, p, 64, ptab.Pack(1, valid), 6, true)
	fine := ptab.Pack(9, write)
	for _, page := range noPages {
		refuses(t, m, p, page, fine, 7, api.ErrArg)
		refuses(t, m, p, page, 0, 7, api.ErrArg)
		refuses(t, m, p, page, 2, -1, api.ErrArg)
	}
	for _, entry := range wrongEntries() {
		refuses(t, m, p, 0, entry, 7, api.ErrEntry)
		refuses(t, m, p, 0, entry, -1, api.ErrEntry)
		refuses(t, m, p, 0, entry, frames, api.ErrEntry)
		refuses(t, m, p, 64, entry, 7, api.ErrEntry)
	}
	for _, spare := range noFrames {
		want := api.ErrAddr
		if spare < 0 {
			want = api.ErrFull
		}
		refuses(t, m, p, 0, fine, spare, want)
		refuses(t, m, p, 128, fine, spare, want)
	}
	gets(t, m, p, 64, ptab.Pack(1, valid))
}

func TestEntriesThatMayBe(t *testing.T) {
	m, p := make1(t)
	for _, frame := range []int{0, 1, root, frames - 1} {
		for _, flags := range []int{valid, write, cow} {
			p.Set(80, 0, -1)
			if _, e := p.Set(80, ptab.Pack(frame, flags), 6); e != api.OK {
				t.Error(frame, flags, e)
			}
			gets(t, m, p, 80, ptab.Pack(frame, flags))
		}
	}
}

func TestGetOfNoPage(t *testing.T) {
	_, p := make1(t)
	sets(t, p, 0, ptab.Pack(1, valid), 6, true)
	sets(t, p, 255, ptab.Pack(1, valid), 7, true)
	for _, page := range noPages {
		if entry, e := p.Get(page); entry != 0 || e != api.ErrArg {
			t.Error("Get", page, entry, e)
		}
	}
}

// P5.3

func TestLeaves(t *testing.T) {
	_, p := make1(t)
	for _, c := range []struct {
		page, spare int
		want        []int
	}{
		{130, 8, []int{8}},
		{255, 2, []int{8, 2}},
		{0, 11, []int{11, 8, 2}},
		{64, 3, []int{11, 3, 8, 2}},
	} {
		sets(t, p, c.page, ptab.Pack(1, valid), c.spare, true)
		if l := p.Leaves(); !slices.Equal(l, c.want) {
			t.Error("Leaves", l, c.want)
		}
	}
	sets(t, p, 255, 0, -1, false)
	if l := p.Leaves(); len(l) != 4 {
		t.Error("a leaf without entries is gone", l)
	}
}

// paged is a page and its entry.
type paged struct {
	page  int
	entry uint32
}

func paging(p *ptab.Table) []paged {
	var l []paged
	for page, entry := range p.All() {
		l = append(l, paged{page, entry})
	}
	return l
}

// some is entries in all of a table's leaves, rising.
func some(t *testing.T, p *ptab.Table) []paged {
	t.Helper()
	l := []paged{{0, 0x101}, {63, 0x003}, {64, 0xb05}, {65, 0x201}, {127, 0x301}, {191, 0x403}, {192, 0x905}, {255, 0x103}}
	for i := len(l) - 1; i >= 0; i-- {
		if _, e := p.Set(l[i].page, l[i].entry, 6+l[i].page/64); e != api.OK {
			t.Fatal("Set", l[i], e)
		}
	}
	return l
}

func TestAll(t *testing.T) {
	m, p := make1(t)
	want := some(t, p)
	was := all(m)
	seq := p.All()
	for range 2 {
		var l []paged
		for page, entry := range seq {
			l = append(l, paged{page, entry})
		}
		if !slices.Equal(l, want) {
			t.Error("All", l)
		}
	}
	sets(t, p, 64, 0, -1, false)
	sets(t, p, 1, 0x201, -1, false)
	if l := paging(p); len(l) != 8 || l[1] != (paged{1, 0x201}) || l[3] != (paged{65, 0x201}) {
		t.Error("All anew", l)
	}
	sets(t, p, 1, 0, -1, false)
	sets(t, p, 64, 0xb05, -1, false)
	kept(t, m, was)
}

func TestAllMayBeStopped(t *testing.T) {
	_, p := make1(t)
	want := some(t, p)
	for n := range len(want) {
		var l []paged
		for page, entry := range p.All() {
			l = append(l, paged{page, entry})
			if len(l) == n+1 {
				break
			}
		}
		if !slices.Equal(l, want[:n+1]) {
			t.Error("stopped behind", n+1, l)
		}
	}
}

// The iterator takes one look, when it is ranged over: not when it is made, and not again.
func TestAllIsAsTheTableIsAtFirst(t *testing.T) {
	_, p := make1(t)
	seq := p.All()
	want := some(t, p)
	var l []paged
	for page, entry := range seq {
		l = append(l, paged{page, entry})
		for _, x := range want {
			p.Set(x.page, 0, -1)
		}
		p.Set(page+1, 0x901, -1)
		p.Set(254, 0x901, -1)
	}
	if !slices.Equal(l, want) {
		t.Error("All", l)
	}
	for range seq {
		return
	}
	t.Error("nothing is there behind it")
}

func TestTranslate(t *testing.T) {
	m, p := make1(t)
	sets(t, p, 65, ptab.Pack(9, write), 4, true)
	sets(t, p, 0, ptab.Pack(0, valid), 6, true)
	sets(t, p, 255, ptab.Pack(11, cow), 7, true)
	was := all(m)
	for _, c := range []struct {
		addr  uint32
		write bool
		want  int
	}{
		{65*256 + 3, true, 9*256 + 3},
		{65*256 + 3, false, 9*256 + 3},
		{65 * 256, true, 9 * 256},
		{65*256 + 255, true, 9*256 + 255},
		{0, false, 0},
		{255, false, 255},
		{1<<16 - 1, false, 11*256 + 255},
		{1<<16 - 256, false, 11 * 256},
	} {
		if got, e := p.Translate(c.addr, c.write); got != c.want || e != api.OK {
			t.Error("Translate", c, got, e)
		}
	}
	for _, c := range []struct {
		addr  uint32
		write bool
	}{
		{1 << 16, false}, {1<<16 + 65*256, true}, {1 << 24, false}, {1 << 31, false}, {math.MaxUint32, false}, {math.MaxUint32, true},
		{64*256 + 255, false}, {66 * 256, true}, {256, false}, {254 * 256, false}, {128 * 256, false}, {128 * 256, true},
		{0, true}, {255, true}, {1<<16 - 1, true},
	} {
		if got, e := p.Translate(c.addr, c.write); got != 0 || e != api.ErrFault {
			t.Error("Translate", c, got, e)
		}
	}
	sets(t, p, 65, 0, -1, false)
	if got, e := p.Translate(65*256, false); got != 0 || e != api.ErrFault {
		t.Error("of an entry that is gone", got, e)
	}
	sets(t, p, 65, ptab.Pack(9, write), -1, false)
	kept(t, m, was)
}

// P5.4

func TestWalkOfNone(t *testing.T) {
	m, p := make1(t)
	sets(t, p, 0, ptab.Pack(1, valid), 6, true)
	sets(t, p, 255, ptab.Pack(1, valid), 7, true)
	if w := ptab.Walk(nil, root, 0); w != 0 {
		t.Error("of no memory", w)
	}
	for _, page := range noPages {
		if w := ptab.Walk(m, root, page); w != 0 {
			t.Error("page", page, w)
		}
	}
	q, _ := ptab.New(m, 0)
	sets(t, q, 0, ptab.Pack(1, valid), 8, true)
	for _, r := range noFrames {
		if w := ptab.Walk(m, r, 0); w != 0 {
			t.Error("root", r, w)
		}
	}
}

// Whoever wrote them, the bytes say the entry: also one that may not be.
func TestWalkOfBytes(t *testing.T) {
	m, _ := phys.New(frames)
	was := []uint32{1, 0x80000000, 0xffffffff, 0x00000f0e}
	for i, leaf := range []int{0, 3, frames - 1, 1} {
		m.Store32(2*256+4*i, uint32(leaf*256+1))
		m.Store32(leaf*256+4*(60+i), was[i])
	}
	for i, want := range was {
		if w := ptab.Walk(m, 2, 64*i+60+i); w != want {
			t.Errorf("leaf %d: %x", i, w)
		}
		if w := ptab.Walk(m, 2, 64*i+59); w != 0 {
			t.Errorf("leaf %d: %x where nothing is", i, w)
		}
	}
	if w := ptab.Walk(m, 0, 0); w != 0 {
		t.Error("another root", w)
	}
}

// badRoots is words of a root that name no leaf.
func badRoots() []uint32 {
	l := []uint32{0, 0x300, 0x303, 0x305, 0x302, 0x381, 0x3ff, frames<<8 | 1, 1<<20 | 1, 1<<31 | 1, 0xffffff01, math.MaxUint32}
	for bit := 1; bit < 8; bit++ {
		l = append(l, 0x301|1<<bit, 0x300|1<<bit)
	}
	return l
}

func TestWalkOfARootThatNamesNoLeaf(t *testing.T) {
	m := noise(t)
	for _, w := range badRoots() {
		for i := range 4 {
			m.Store32(2*256+4*i, w)
		}
		was := all(m)
		for _, page := range []int{0, 63, 64, 191, 255} {
			if got := ptab.Walk(m, 2, page); got != 0 {
				t.Errorf("root's word %x: %x", w, got)
			}
		}
		kept(t, m, was)
	}
}

// A root's word that somebody else wrote, and that names no leaf, is none for the table either.
func TestTableOfARootThatNamesNoLeaf(t *testing.T) {
	for _, w := range badRoots() {
		m, p := make1(t)
		m.Store32(root*256+8, w)
		gets(t, m, p, 130, 0)
		if !p.Needs(130) || len(p.Leaves()) != 0 || len(paging(p)) != 0 {
			t.Errorf("root's word %x: Needs, Leaves, All", w)
		}
		refuses(t, m, p, 130, ptab.Pack(9, valid), -1, api.ErrFull)
		sets(t, p, 130, ptab.Pack(9, valid), 6, true)
		gets(t, m, p, 130, ptab.Pack(9, valid))
	}
}

func TestOfNoTable(t *testing.T) {
	for _, p := range []*ptab.Table{nil, {}} {
		if p.Root() != -1 || p.Needs(0) || len(p.Leaves()) != 0 {
			t.Error("Root, Needs, Leaves")
		}
		for page, entry := range p.All() {
			t.Error("All", page, entry)
		}
		for _, page := range []int{-1, 0, 256} {
			if leaf, e := p.Set(page, 8, -1); leaf || e != api.ErrClosed {
				t.Error("Set", leaf, e)
			}
			if entry, e := p.Get(page); entry != 0 || e != api.ErrClosed {
				t.Error("Get", entry, e)
			}
		}
		for _, addr := range []uint32{0, 1 << 16} {
			if at, e := p.Translate(addr, true); at != 0 || e != api.ErrClosed {
				t.Error("Translate", at, e)
			}
		}
	}
}

// R3

func TestLeavesAreNewMemory(t *testing.T) {
	_, p := make1(t)
	some(t, p)
	a, b := p.Leaves(), p.Leaves()
	clear(a[:cap(a)])
	if !slices.Equal(b, []int{6, 7, 8, 9}) || !slices.Equal(p.Leaves(), b) {
		t.Error("Leaves", b, p.Leaves())
	}
}
