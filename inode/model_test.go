package inode_test

import (
	"bytes"
	"slices"
	"testing"

	"parapet/api"
	"parapet/disk"
	"parapet/inode"
	"parapet/wlog"
)

// dice are numbers that are the same in each run.
type dice uint64

func (d *dice) below(n int) int {
	*d = *d*6364136223846793005 + 1442695040888963407
	return int(uint64(*d)>>33) % n
}

// entry is an inode as the chapter tells it: its bytes one by one, and where each block of them lies.
type entry struct {
	kind  int
	bytes []byte
	lies  map[int]int // by the file's block
	table int
}

// model is the inodes of a disk, and its blocks as they ought to be.
type model struct {
	l     api.Layout
	files map[int]*entry
	free  map[int]bool
	image [][]byte
}

func makeModel(s *store, l api.Layout) *model {
	m := &model{l: l, files: map[int]*entry{}, free: map[int]bool{}, image: s.image()}
	first, count := inode.Data(l)
	for n := range count {
		m.free[first+n] = true
	}
	return m
}

// take is the least free block, 0 if there is none.
func (m *model) take() int {
	for n := range m.l.Sectors {
		if m.free[n] {
			delete(m.free, n)
			clear(m.image[n])
			return n
		}
	}
	return 0
}

// wants is how many blocks a write needs.
func (x *entry) wants(at, count int) int {
	n, table := 0, x.table != 0
	for k := at / size; k*size < at+count && count > 0; k++ {
		if x.lies[k] != 0 {
			continue
		}
		n++
		if k >= 12 && !table {
			table = true
			n++
		}
	}
	return n
}

func (m *model) write(n, at int, b []byte) api.Errno {
	x := m.files[n]
	switch {
	case x == nil:
		return api.ErrInode
	case at < 0 || at+len(b) > api.MaxFileSize:
		return api.ErrRange
	case x.wants(at, len(b)) > len(m.free):
		return api.ErrSpace
	}
	for i, c := range b {
		k := (at + i) / size
		if k >= 12 && x.table == 0 {
			x.table = m.take()
		}
		if x.lies[k] == 0 {
			x.lies[k] = m.take()
		}
		m.image[x.lies[k]][(at+i)%size] = c
	}
	x.bytes = append(x.bytes, make([]byte, max(0, at+len(b)-len(x.bytes)))...)
	copy(x.bytes[at:], b)
	m.numbers(x)
	return api.OK
}

func (m *model) truncate(n, to int) api.Errno {
	x := m.files[n]
	switch {
	case x == nil:
		return api.ErrInode
	case to < 0 || to > api.MaxFileSize:
		return api.ErrRange
	}
	was := len(x.bytes)
	x.bytes = append(slices.Clone(x.bytes[:min(was, to)]), make([]byte, max(0, to-was))...)
	if to >= was {
		return api.OK
	}
	stands := false
	for k := range 32 {
		if at := x.lies[k]; at != 0 && k*size >= to {
			m.free[at] = true
			delete(x.lies, k)
		} else if at != 0 {
			clear(m.image[at][min(size, to-k*size):])
		}
		stands = stands || k >= 12 && x.lies[k] != 0
	}
	if x.table != 0 && !stands {
		m.free[x.table] = true
		x.table = 0
	}
	m.numbers(x)
	return api.OK
}

// numbers lays down the words of the block for numbers.
func (m *model) numbers(x *entry) {
	for k := 12; k < 32 && x.table != 0; k++ {
		copy(m.image[x.table][(k-12)*4:], word(x.lies[k]))
	}
}

func (m *model) alloc(kind int) (int, api.Errno) {
	for n := 1; n <= m.l.Inodes; n++ {
		if m.files[n] == nil {
			m.files[n] = &entry{kind: kind, lies: map[int]int{}}
			return n, api.OK
		}
	}
	return 0, api.ErrSpace
}

func (m *model) drop(n int) {
	m.truncate(n, 0)
	delete(m.files, n)
}

// blocks is an entry's, in the order of the chapter.
func (x *entry) blocks() []int {
	var l []int
	for k := range 32 {
		if n := x.lies[k]; n != 0 {
			l = append(l, n)
		}
	}
	if x.table != 0 {
		l = append(l, x.table)
	}
	return l
}

func (x *entry) inode() api.Inode {
	y := api.Inode{Kind: x.kind, Size: len(x.bytes)}
	for k := range 12 {
		y.Blocks[k] = x.lies[k]
	}
	y.Blocks[12] = x.table
	return y
}

// records lays the inodes and the bitmap down.
func (m *model) records() {
	first, _ := inode.Data(m.l)
	for n := 1; n <= m.l.Inodes; n++ {
		b := make([]byte, 64)
		if x := m.files[n]; x != nil {
			y := x.inode()
			b = append([]byte{byte(y.Kind), 0, 0, 0}, word(y.Size)...)
			for _, at := range y.Blocks {
				b = append(b, word(at)...)
			}
			b = append(b, 0, 0, 0, 0)
		}
		copy(m.image[1+m.l.Log+(n-1)/8][(n-1)%8*64:], b)
	}
	clear(m.image[first-1])
	for n := range m.l.Sectors {
		if !m.free[n] {
			m.image[first-1][n/8] |= 1 << (n % 8)
		}
	}
}

// at is a place about where blocks begin, and the numbers of the block for numbers.
func at(r *dice) int {
	switch r.below(6) {
	case 0:
		return r.below(api.MaxFileSize + 2)
	case 1:
		return api.MaxFileSize - r.below(3)
	case 2:
		return 12*size + r.below(5) - 2
	case 3:
		return r.below(33) * size
	}
	return r.below(1500)
}

func step(t *testing.T, r *dice, s api.Store, m *model) {
	t.Helper()
	n := 1 + r.below(m.l.Inodes)
	switch r.below(10) {
	case 0, 1:
		kind := 1 + r.below(2)
		a, e := inode.Alloc(s, m.l, kind)
		if b, want := m.alloc(kind); a != b || e != want {
			t.Fatal("Alloc", a, e, b, want)
		}
	case 2:
		m.drop(n)
		if e := inode.Free(s, m.l, n); e != api.OK {
			t.Fatal("Free", n, e)
		}
	case 3, 4:
		to := at(r)
		if e, want := inode.Truncate(s, m.l, n, to), m.truncate(n, to); e != want {
			t.Fatal("Truncate", n, to, e, want)
		}
	default:
		from, b := at(r), make([]byte, []int{r.below(20), r.below(3 * size), r.below(14 * size)}[r.below(3)])
		for i := range b {
			b[i] = byte(r.below(256))
		}
		if e, want := inode.Write(s, m.l, n, from, b), m.write(n, from, b); e != want {
			t.Fatal("Write", n, from, len(b), e, want)
		}
	}
}

// hold holds what is told of all inodes, and that each block is one's, or free.
func hold(t *testing.T, r *dice, s api.Store, m *model) {
	t.Helper()
	first, count := inode.Data(m.l)
	whose := map[int]int{}
	for n := 1; n <= m.l.Inodes; n++ {
		want := m.files[n]
		if want == nil {
			want = &entry{}
		}
		if x, e := inode.Get(s, m.l, n); x != want.inode() || e != api.OK {
			t.Fatal("Get", n, x, e, want.inode())
		}
		l, e := inode.Blocks(s, m.l, n)
		if !slices.Equal(l, want.blocks()) || e != api.OK {
			t.Fatal("Blocks", n, l, e, want.blocks())
		}
		for _, at := range l {
			if whose[at] != 0 || at < first || at >= first+count {
				t.Fatal("block", at, "is", n, "and", whose[at])
			}
			whose[at] = n
		}
		if b, e := inode.Read(s, m.l, n, 0, api.MaxFileSize); !bytes.Equal(b, want.bytes) || e != api.OK {
			t.Fatal("Read", n, e)
		}
		from, to := r.below(len(want.bytes)+1), r.below(len(want.bytes)+1)
		if from > to {
			from, to = to, from
		}
		if b, e := inode.Read(s, m.l, n, from, to-from); !bytes.Equal(b, want.bytes[from:to]) || e != api.OK {
			t.Fatal("Read", n, from, to-from, e)
		}
	}
	if n, e := inode.Used(s, m.l); n != len(whose) || n != count-len(m.free) || e != api.OK {
		t.Fatal("Used", n, e, len(whose))
	}
}

// P17.5, P17.6: however Writes, Truncates, Allocs and Frees follow one another; and no other bytes are changed.
func TestAgainstModel(t *testing.T) {
	r := dice(175)
	for _, l := range []api.Layout{{Sectors: 16, Log: 4, Inodes: 3}, {Sectors: 64, Log: 8, Inodes: 9}, {Sectors: 200, Log: 20, Inodes: 5}, {Sectors: 51, Log: 4, Inodes: 2}} {
		for range 4 {
			s := make2(t, l)
			m := makeModel(s, l)
			for range 150 {
				step(t, &r, s, m)
				hold(t, &r, s, m)
				m.records()
				s.changed(t, m.image)
				if t.Failed() {
					t.FailNow()
				}
			}
		}
	}
}

// The blocks may be a log's, whose groups last.
func TestOnALog(t *testing.T) {
	r := dice(176)
	l := api.Layout{Sectors: 400, Log: 100, Inodes: 9}
	d, _ := disk.New(l.Sectors)
	inode.Format(d, l)
	log, _ := wlog.Format(d, 1, l.Log)
	s := makeStore(l.Sectors)
	for n := range s.blocks {
		s.blocks[n], _ = d.Read(n)
	}
	m := makeModel(s, l)
	for range 200 {
		step(t, &r, log, m)
		hold(t, &r, log, m)
		if _, e := log.Commit(); e != api.OK {
			t.Fatal("Commit", e)
		}
	}
	d.Crash(nil)
	hold(t, &r, d, m)
	if x, e := inode.Open(d); x != l || e != api.OK {
		t.Error("Open", x, e)
	}
}

// What a log has no room for is told, and what the group has then reads as it was.
func TestOnALogThatIsFull(t *testing.T) {
	l := api.Layout{Sectors: 64, Log: 4, Inodes: 9}
	d, _ := disk.New(l.Sectors)
	inode.Format(d, l)
	log, _ := wlog.Format(d, 1, l.Log)
	if n, e := inode.Alloc(log, l, api.InodeFile); n != 1 || e != api.OK {
		t.Fatal("Alloc", n, e)
	}
	if e := inode.Write(log, l, 1, 0, text(2*size)); e != api.ErrFull {
		t.Error("Write", e)
	}
	if x, e := inode.Get(log, l, 1); x != (api.Inode{Kind: api.InodeFile}) || e != api.OK {
		t.Error("Get", x, e)
	}
	if n, e := inode.Used(log, l); n != 0 || e != api.OK {
		t.Error("Used", n, e)
	}
	var none *wlog.Log
	if e := inode.Write(none, l, 1, 0, text(size)); e != api.ErrClosed {
		t.Error("Write", e)
	}
}
