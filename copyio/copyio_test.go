package copyio_test

import (
	"bytes"
	"math"
	"slices"
	"strings"
	"testing"

	"parapet/api"
	"parapet/copyio"
	"parapet/phys"
	"parapet/ptab"
)

const (
	r = api.PteValid
	w = api.PteValid | api.PteWrite
	c = api.PteValid | api.PteCow
)

// make1 is a memory none of whose bytes is 0, with a table whose root is frame 1, and whose leaves are frames 2 to 5.
func make1(t *testing.T, entries map[int]uint32) (*phys.Mem, *ptab.Table) {
	t.Helper()
	m, e := phys.New(24)
	if e != api.OK {
		t.Fatal("phys.New", e)
	}
	b := make([]byte, 24*api.PageSize)
	for i := range b {
		b[i] = byte(1 + i%255)
	}
	m.Write(0, b)
	return m, table(t, m, 1, entries)
}

// table is one that has its root at a frame, its leaves behind it.
func table(t *testing.T, m *phys.Mem, root int, entries map[int]uint32) *ptab.Table {
	t.Helper()
	x, e := ptab.New(m, root)
	if e != api.OK {
		t.Fatal("ptab.New", e)
	}
	for page, entry := range entries {
		if _, e := x.Set(page, entry, root+1+page>>6); e != api.OK {
			t.Fatal("Set", page, e)
		}
	}
	return x
}

func all(m *phys.Mem) []byte {
	b, _ := m.Read(0, m.Frames()*api.PageSize)
	return b
}

// same holds that a memory's bytes are as they were.
func same(t *testing.T, m *phys.Mem, was []byte) {
	t.Helper()
	if !bytes.Equal(all(m), was) {
		t.Error("the memory has changed")
	}
}

// rising is bytes that rise from 1 on.
func rising(n int) []byte {
	b := make([]byte, n)
	for i := range b {
		b[i] = byte(1 + i)
	}
	return b
}

// P14.1

func TestPages(t *testing.T) {
	for _, x := range []struct {
		addr uint32
		n    int
		want []int
	}{
		{0, 1, []int{0}}, {0, 256, []int{0}}, {0, 257, []int{0, 1}}, {255, 1, []int{0}}, {255, 2, []int{0, 1}}, {256, 1, []int{1}},
		{1, 256, []int{0, 1}}, {250, 1024, []int{0, 1, 2, 3, 4}}, {256, 1024, []int{1, 2, 3, 4}}, {512, 1023, []int{2, 3, 4, 5}},
		{65535, 1, []int{255}}, {65535, 2, []int{255, 256}}, {65536, 1, []int{256}}, {1 << 31, 1, []int{1 << 23}}, {1<<31 - 1, 2, []int{1<<23 - 1, 1 << 23}},
		{math.MaxUint32, 1, []int{1<<24 - 1}}, {math.MaxUint32, 2, []int{1<<24 - 1, 1 << 24}},
		{math.MaxUint32, 1024, []int{1<<24 - 1, 1 << 24, 1<<24 + 1, 1<<24 + 2, 1<<24 + 3}},
		{math.MaxUint32 - 255, 256, []int{1<<24 - 1}}, {math.MaxUint32 - 255, 257, []int{1<<24 - 1, 1 << 24}},
	} {
		if l := copyio.Pages(x.addr, x.n); !slices.Equal(l, x.want) {
			t.Error("Pages", x.addr, x.n, l, x.want)
		}
	}
	for _, addr := range []uint32{0, 1, 255, 256, 65535, math.MaxUint32} {
		for _, n := range []int{0, -1, -1024, 1025, math.MinInt, math.MaxInt} {
			if l := copyio.Pages(addr, n); len(l) != 0 {
				t.Error("Pages", addr, n, l)
			}
		}
	}
}

func TestMissing(t *testing.T) {
	_, x := make1(t, map[int]uint32{0: ptab.Pack(7, w), 1: ptab.Pack(8, c), 2: ptab.Pack(9, r), 3: ptab.Pack(10, w), 5: ptab.Pack(11, w), 255: ptab.Pack(12, w)})
	for _, y := range []struct {
		addr        uint32
		n           int
		read, write int // the missing page, -1 if there is none
	}{
		{0, 1, -1, -1}, {0, 256, -1, -1}, {0, 257, -1, 1}, {255, 1, -1, -1}, {255, 2, -1, 1}, {256, 1, -1, 1}, {511, 2, -1, 1}, {512, 2, -1, 2},
		{768, 256, -1, -1}, {768, 257, 4, 4}, {0, 1024, -1, 1}, {1, 1024, 4, 1}, {1024, 1, 4, 4}, {1024, 1024, 4, 4}, {1280, 256, -1, -1}, {1280, 1024, 6, 6},
		{255 * 256, 256, -1, -1}, {255 * 256, 257, 256, 256}, {65535, 1, -1, -1}, {65535, 2, 256, 256}, {65535, 1024, 256, 256}, {254 * 256, 1024, 254, 254},
		{65536, 1, 256, 256}, {65536 + 256, 1024, 257, 257}, {1<<24 + 5, 3, 1 << 16, 1 << 16},
		{math.MaxUint32, 1, 1<<24 - 1, 1<<24 - 1}, {math.MaxUint32, 1024, 1<<24 - 1, 1<<24 - 1},
		{1024, 0, -1, -1}, {1024, -1, -1, -1}, {1024, math.MinInt, -1, -1}, {math.MaxUint32, 0, -1, -1}, {1024, -1024, -1, -1},
	} {
		for i, want := range []int{y.read, y.write} {
			if page, ok := copyio.Missing(x, y.addr, y.n, i == 1); page != max(want, 0) || ok != (want >= 0) {
				t.Error("Missing", y.addr, y.n, i == 1, page, ok, want)
			}
			if page, ok := copyio.Missing(nil, y.addr, y.n, i == 1); page != 0 || ok {
				t.Error("Missing of no table", page, ok)
			}
		}
	}
	// Of so many nothing is said but that the call ends.
	for _, n := range []int{1025, math.MaxInt} {
		copyio.Missing(x, 0, n, false)
		copyio.Missing(x, math.MaxUint32, n, true)
	}
}

// P14.2 and P14.3: what may not be

func TestRefusals(t *testing.T) {
	m, x := make1(t, map[int]uint32{0: ptab.Pack(7, w), 1: ptab.Pack(8, w), 2: ptab.Pack(9, w), 3: ptab.Pack(10, w), 4: ptab.Pack(11, w)})
	was := all(m)
	for _, y := range []struct {
		m    *phys.Mem
		t    *ptab.Table
		addr uint32
		n    int
	}{
		{nil, x, 0, 4}, {m, nil, 0, 4}, {nil, nil, 0, 4}, {nil, x, 0, 0}, {m, nil, 0, 0}, {nil, x, 1 << 20, 4}, {m, nil, 1 << 20, 4},
		{m, x, 0, -1}, {m, x, 0, 1025}, {m, x, 1 << 20, -1}, {m, x, 1 << 20, 1025}, {m, x, 0, math.MinInt}, {m, x, 0, math.MaxInt},
	} {
		if b, page, e := copyio.In(y.m, y.t, y.addr, y.n); len(b) != 0 || page != 0 || e != api.ErrArg {
			t.Error("In", y.addr, y.n, b, page, e)
		}
		if s, page, e := copyio.Text(y.m, y.t, y.addr, y.n); s != "" || page != 0 || e != api.ErrArg {
			t.Error("Text", y.addr, y.n, s, page, e)
		}
		if page, e := copyio.Move(y.m, y.t, y.addr, x, 0, y.n); page != 0 || e != api.ErrArg {
			t.Error("Move", y.addr, y.n, page, e)
		}
		if page, e := copyio.Move(y.m, x, y.addr, y.t, 0, y.n); page != 0 || e != api.ErrArg {
			t.Error("Move to it", y.addr, y.n, page, e)
		}
		if y.n >= 0 && y.n < 2000 {
			if page, e := copyio.Out(y.m, y.t, y.addr, make([]byte, y.n)); page != 0 || e != api.ErrArg {
				t.Error("Out", y.addr, y.n, page, e)
			}
		}
		if y.n == 4 {
			if z, page, e := copyio.Load(y.m, y.t, y.addr); z != 0 || page != 0 || e != api.ErrArg {
				t.Error("Load", y.addr, z, page, e)
			}
			if page, e := copyio.Store(y.m, y.t, y.addr, 7); page != 0 || e != api.ErrArg {
				t.Error("Store", y.addr, page, e)
			}
		}
	}
	if s, page, e := copyio.Text(m, x, 0, 0); s != "" || page != 0 || e != api.ErrArg {
		t.Error("Text of at most nothing", s, page, e)
	}
	same(t, m, was)
}

// P14.2

func TestOutAndIn(t *testing.T) {
	m, x := make1(t, map[int]uint32{0: ptab.Pack(7, w), 1: ptab.Pack(3+9, w), 2: ptab.Pack(9, w), 3: ptab.Pack(23, w), 4: ptab.Pack(0, w), 255: ptab.Pack(8, w)})
	frames := map[int]int{0: 7, 1: 12, 2: 9, 3: 23, 4: 0, 255: 8}
	for _, y := range []struct {
		addr uint32
		n    int
	}{{0, 1}, {0, 0}, {250, 10}, {0, 256}, {0, 1024}, {255, 1}, {255, 1024}, {256, 1024}, {300, 900}, {255 * 256, 256}, {65535, 1}, {65535, 0}, {1 << 20, 0}} {
		want, b := all(m), rising(y.n)
		for i, value := range b {
			at := int(y.addr) + i
			want[frames[at/256]*256+at%256] = value
		}
		if page, e := copyio.Out(m, x, y.addr, b); page != 0 || e != api.OK {
			t.Error("Out", y.addr, y.n, page, e)
		}
		if !bytes.Equal(b, rising(y.n)) {
			t.Error("what is handed in has changed")
		}
		same(t, m, want)
		got, page, e := copyio.In(m, x, y.addr, y.n)
		if !bytes.Equal(got, b) || page != 0 || e != api.OK {
			t.Error("In", y.addr, y.n, page, e)
		}
		clear(got)
		same(t, m, want)
	}
}

func TestOutChecksFirst(t *testing.T) {
	m, x := make1(t, map[int]uint32{0: ptab.Pack(7, w), 1: ptab.Pack(8, c), 2: ptab.Pack(9, w), 4: ptab.Pack(10, r), 255: ptab.Pack(11, w)})
	was := all(m)
	for _, y := range []struct {
		addr     uint32
		n        int
		out, in1 int // the missing page
	}{
		{0, 257, 1, 0}, {255, 2, 1, 0}, {256, 1, 1, 0}, {0, 1024, 1, 3}, {512, 257, 3, 3}, {768, 1, 3, 3}, {1024, 1, 4, 0}, {1000, 1024, 3, 3}, {1024, 257, 4, 5},
		{65535, 2, 256, 256}, {65536, 1, 256, 256}, {1 << 16, 1024, 256, 256}, {math.MaxUint32, 1, 1<<24 - 1, 1<<24 - 1}, {math.MaxUint32, 1024, 1<<24 - 1, 1<<24 - 1},
	} {
		if page, e := copyio.Out(m, x, y.addr, rising(y.n)); page != y.out || e != api.ErrFault {
			t.Error("Out", y.addr, y.n, page, e, y.out)
		}
		if y.in1 != 0 {
			if b, page, e := copyio.In(m, x, y.addr, y.n); len(b) != 0 || page != y.in1 || e != api.ErrFault {
				t.Error("In", y.addr, y.n, page, e, y.in1)
			}
		} else if b, page, e := copyio.In(m, x, y.addr, y.n); len(b) != y.n || page != 0 || e != api.OK {
			t.Error("In", y.addr, y.n, page, e)
		}
	}
	same(t, m, was)
}

// Where two pages are one frame what is written last stands.
func TestOutToOneFrameTwice(t *testing.T) {
	m, x := make1(t, map[int]uint32{0: ptab.Pack(7, w), 1: ptab.Pack(8, w), 2: ptab.Pack(7, w)})
	b := make([]byte, 768)
	for i := range b {
		b[i] = byte(i>>8*100 + i%50)
	}
	want := all(m)
	copy(want[7*256:], b[512:])
	copy(want[8*256:], b[256:512])
	if page, e := copyio.Out(m, x, 0, b); page != 0 || e != api.OK {
		t.Error("Out", page, e)
	}
	same(t, m, want)
	copy(want[7*256+200:], b[:56])
	copy(want[8*256:], b[56:312])
	copy(want[7*256:], b[312:412])
	if page, e := copyio.Out(m, x, 200, b[:412]); page != 0 || e != api.OK {
		t.Error("Out", page, e)
	}
	same(t, m, want)
	if got, _, e := copyio.In(m, x, 0, 768); e != api.OK || !bytes.Equal(got[:256], got[512:]) {
		t.Error("In", e)
	}
}

// A range that lies in the table's own leaf is written wholly all the same: it was found ahead.
func TestOutToTheTable(t *testing.T) {
	m, x := make1(t, map[int]uint32{0: ptab.Pack(2, w), 1: ptab.Pack(7, w)})
	want := all(m)
	b := make([]byte, 300)
	copy(want[2*256:], b[:256])
	copy(want[7*256:], b[256:])
	if page, e := copyio.Out(m, x, 0, b); page != 0 || e != api.OK {
		t.Error("Out", page, e)
	}
	same(t, m, want)
}

func TestLoadAndStore(t *testing.T) {
	m, x := make1(t, map[int]uint32{0: ptab.Pack(9, w), 1: ptab.Pack(7, w), 2: ptab.Pack(8, r), 255: ptab.Pack(10, w)})
	for _, addr := range []uint32{0, 1, 2, 3, 4, 252, 253, 254, 255, 256, 508, 65532} {
		for _, word := range []uint32{0x04030201, 0, math.MaxUint32, 0x80000000, 0xff} {
			if page, e := copyio.Store(m, x, addr, word); page != 0 || e != api.OK {
				t.Error("Store", addr, page, e)
			}
			b, _, _ := copyio.In(m, x, addr, 4)
			if !bytes.Equal(b, []byte{byte(word), byte(word >> 8), byte(word >> 16), byte(word >> 24)}) {
				t.Error("In", addr, b, word)
			}
			if got, page, e := copyio.Load(m, x, addr); got != word || page != 0 || e != api.OK {
				t.Error("Load", addr, got, page, e)
			}
		}
	}
	was := all(m)
	for addr, page := range map[uint32]int{765: 3, 766: 3, 768: 3, 65533: 256, 65535: 256, 65536: 256, 254 * 256: 254, 255*256 - 4: 254, 255*256 - 1: 254, math.MaxUint32: 1<<24 - 1, math.MaxUint32 - 3: 1<<24 - 1} {
		if got, missing, e := copyio.Load(m, x, addr); got != 0 || missing != page || e != api.ErrFault {
			t.Error("Load", addr, got, missing, e)
		}
	}
	for addr, page := range map[uint32]int{509: 2, 511: 2, 512: 2, 764: 2, 765: 2, 768: 3, 65533: 256, 65536: 256, 255*256 - 1: 254, math.MaxUint32: 1<<24 - 1} {
		if missing, e := copyio.Store(m, x, addr, 0x01020304); missing != page || e != api.ErrFault {
			t.Error("Store", addr, missing, e)
		}
	}
	same(t, m, was)
}

// P14.3

func TestText(t *testing.T) {
	m, x := make1(t, map[int]uint32{0: ptab.Pack(9, w), 1: ptab.Pack(7, c), 2: ptab.Pack(8, r), 3: ptab.Pack(11, w), 255: ptab.Pack(10, w)})
	long := strings.Repeat("x", 1024)
	m.Write(9*256, []byte(long[:256]))
	m.Write(9*256+250, []byte("/init/"))
	m.Write(7*256, []byte("a\xff\x00b\x00"))
	m.Write(8*256, []byte(long[:256]))
	m.Write(11*256, []byte(long[:256]))
	m.Write(10*256, []byte(long[:256]))
	for _, y := range []struct {
		addr uint32
		most int
		text string
		page int
		want api.Errno
	}{
		{250, 9, "/init/a\xff", 0, api.OK}, {250, 1024, "/init/a\xff", 0, api.OK}, {250, 8, "", 0, api.ErrLong}, {250, 6, "", 0, api.ErrLong}, {250, 1, "", 0, api.ErrLong},
		{256, 3, "a\xff", 0, api.OK}, {256, 2, "", 0, api.ErrLong}, {258, 1, "", 0, api.OK}, {258, 1024, "", 0, api.OK}, {259, 2, "b", 0, api.OK}, {259, 1, "", 0, api.ErrLong},
		{512, 512, "", 0, api.ErrLong}, {512, 513, "", 4, api.ErrFault}, {513, 1024, "", 4, api.ErrFault}, {1023, 1, "", 0, api.ErrLong}, {1023, 2, "", 4, api.ErrFault},
		{1024, 1, "", 4, api.ErrFault}, {65535, 1, "", 0, api.ErrLong}, {65535, 2, "", 256, api.ErrFault}, {65536, 1, "", 256, api.ErrFault},
		{math.MaxUint32, 1, "", 1<<24 - 1, api.ErrFault}, {math.MaxUint32, 1024, "", 1<<24 - 1, api.ErrFault}, {254 * 256, 1024, "", 254, api.ErrFault},
	} {
		if s, page, e := copyio.Text(m, x, y.addr, y.most); s != y.text || page != y.page || e != y.want {
			t.Errorf("Text(%d, %d): %q %d %v, not %q %d %v", y.addr, y.most, s, page, e, y.text, y.page, y.want)
		}
	}
	m.Store8(8*256+255, 0)
	if s, page, e := copyio.Text(m, x, 512, 1024); s != long[:255] || page != 0 || e != api.OK {
		t.Error("a 0 ahead of the missing page", len(s), page, e)
	}
	m.Store8(7*256+2, 'c')
	m.Store8(7*256+4, 'c')
	m.Write(7*256+5, []byte(long[:251]))
	if s, page, e := copyio.Text(m, x, 0, 768); len(s) != 767 || s[:250] != long[:250] || page != 0 || e != api.OK {
		t.Error("a text of three pages", len(s), page, e)
	}
	if s, page, e := copyio.Text(m, x, 0, 767); s != "" || page != 0 || e != api.ErrLong {
		t.Error("a text that is too long by its 0", len(s), page, e)
	}
}

func TestMove(t *testing.T) {
	m, x := make1(t, map[int]uint32{0: ptab.Pack(7, r), 1: ptab.Pack(8, c), 2: ptab.Pack(9, w), 4: ptab.Pack(10, w)})
	to := table(t, m, 12, map[int]uint32{0: ptab.Pack(18, w), 1: ptab.Pack(19, w), 2: ptab.Pack(20, r), 5: ptab.Pack(9, w), 255: ptab.Pack(21, w)})
	for _, y := range []struct {
		a, b uint32
		n    int
		at   map[int]int // where the bytes go to: the address in the memory of one, by its turn
	}{
		{250, 251, 10, map[int]int{0: 18*256 + 251, 4: 18*256 + 255, 5: 19 * 256, 9: 19*256 + 4}},
		{0, 0, 512, map[int]int{0: 18 * 256, 255: 18*256 + 255, 256: 19 * 256, 511: 19*256 + 255}},
		{767, 65535, 1, map[int]int{0: 21*256 + 255}},
		{512, 5*256 + 1, 255, map[int]int{0: 9*256 + 1, 254: 9*256 + 255}}, // both are frame 9: all is read ahead
		{0, 0, 0, nil}, {768, 768, 0, nil}, {1 << 20, 1 << 20, 0, nil},
	} {
		m.Write(7*256, rising(256))
		m.Write(9*256, rising(256))
		want, b := all(m), []byte(nil)
		for i := range y.n {
			addr := int(y.a) + i
			b = append(b, want[map[int]int{0: 7, 1: 8, 2: 9}[addr/256]*256+addr%256])
		}
		for i, at := range y.at {
			want[at] = b[i]
		}
		if page, e := copyio.Move(m, x, y.a, to, y.b, y.n); page != 0 || e != api.OK {
			t.Error("Move", y, page, e)
		}
		if got, _, _ := copyio.In(m, to, y.b, y.n); !bytes.Equal(got, b) {
			t.Error("Move", y, got, b)
		}
		for _, at := range y.at {
			if got, _ := m.Load8(at); got != want[at] {
				t.Error("Move", y, at, got, want[at])
			}
		}
	}
	was := all(m)
	for _, y := range []struct {
		a, b    uint32
		n, page int
	}{
		{768, 0, 1, 3}, {767, 0, 2, 3}, {768, 768, 1, 3}, {700, 3 * 256, 200, 3}, {1024, 512, 1, 2}, {0, 255, 258, 2}, {512, 700, 1, 2}, {0, 768, 1, 3},
		{0, 65535, 2, 256}, {0, 65536, 1, 256}, {65536, 0, 1, 256}, {65536 + 256, 65536, 1, 257}, {0, math.MaxUint32, 1, 1<<24 - 1}, {math.MaxUint32, 0, 1024, 1<<24 - 1},
		{0, 0, 1024, 3}, {0, 0, 768, 2},
	} {
		if page, e := copyio.Move(m, x, y.a, to, y.b, y.n); page != y.page || e != api.ErrFault {
			t.Error("Move", y, page, e)
		}
	}
	same(t, m, was)
	if page, e := copyio.Move(m, x, 512, x, 514, 200); page != 0 || e != api.OK {
		t.Error("Move in one space", page, e)
	}
	if got, _, _ := copyio.In(m, x, 514, 200); !bytes.Equal(got, was[9*256:9*256+200]) {
		t.Error("a range that lies in itself is not read ahead", got)
	}
}

// P14.4: through any table that has the frames.
func TestInThroughAnotherTable(t *testing.T) {
	m, x := make1(t, map[int]uint32{0: ptab.Pack(7, w), 1: ptab.Pack(8, w), 2: ptab.Pack(9, w)})
	other := table(t, m, 12, map[int]uint32{100: ptab.Pack(7, r), 101: ptab.Pack(8, c), 102: ptab.Pack(9, w)})
	if page, e := copyio.Out(m, x, 100, rising(600)); page != 0 || e != api.OK {
		t.Error("Out", page, e)
	}
	if b, page, e := copyio.In(m, other, 100*256+100, 600); !bytes.Equal(b, rising(600)) || page != 0 || e != api.OK {
		t.Error("In", page, e)
	}
}

// The chapter's example.
func TestExample(t *testing.T) {
	m, x := make1(t, map[int]uint32{0: ptab.Pack(7, w), 1: ptab.Pack(3+16, w)})
	want := all(m)
	copy(want[7*256+250:], rising(6))
	copy(want[19*256:], rising(10)[6:])
	if page, e := copyio.Out(m, x, 250, rising(10)); page != 0 || e != api.OK {
		t.Error("Out", page, e)
	}
	same(t, m, want)
	if b, page, e := copyio.In(m, x, 500, 20); len(b) != 0 || page != 2 || e != api.ErrFault {
		t.Error("In", b, page, e)
	}
}
