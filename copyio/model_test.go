package copyio_test

import (
	"bytes"
	"testing"

	"parapet/api"
	"parapet/copyio"
	"parapet/phys"
	"parapet/ptab"
)

// dice are numbers that are the same in each run.
type dice uint64

func (d *dice) below(n int) int {
	*d = *d*6364136223846793005 + 1442695040888963407
	return int(uint64(*d)>>33) % n
}

// find is where a byte lies, by the memory's bytes alone; a byte that can't be translated has its page's number.
func find(m *phys.Mem, root int, addr uint64, write bool) (at, page int, ok bool) {
	page = int(addr / 256)
	if page > 255 {
		return 0, page, false
	}
	entry := ptab.Walk(m, root, page)
	if entry == 0 || write && entry&api.PteWrite == 0 {
		return 0, page, false
	}
	return int(entry/256)*256 + int(addr%256), page, true
}

// read is what In ought to tell, byte by byte.
func read(m *phys.Mem, root int, addr uint32, n int) ([]byte, int, api.Errno) {
	var b []byte
	for i := range n {
		at, page, ok := find(m, root, uint64(addr)+uint64(i), false)
		if !ok {
			return nil, page, api.ErrFault
		}
		x, _ := m.Load8(at)
		b = append(b, x)
	}
	return b, 0, api.OK
}

// write is what Out ought to do, byte by byte.
func write(m *phys.Mem, root int, addr uint32, b []byte) (int, api.Errno) {
	for i := range b {
		if _, page, ok := find(m, root, uint64(addr)+uint64(i), true); !ok {
			return page, api.ErrFault
		}
	}
	for i, x := range b {
		at, _, _ := find(m, root, uint64(addr)+uint64(i), true)
		m.Store8(at, x)
	}
	return 0, api.OK
}

// text is what Text ought to tell.
func text(m *phys.Mem, root int, addr uint32, most int) (string, int, api.Errno) {
	for n := 1; n <= most; n++ {
		b, page, e := read(m, root, addr, n)
		if e != api.OK {
			return "", page, e
		}
		if b[n-1] == 0 {
			return string(b[:n-1]), 0, api.OK
		}
	}
	return "", 0, api.ErrLong
}

// play is a memory with two tables, and another one that is the same, on which the model works.
type play struct {
	*testing.T
	dice dice
	m, n *phys.Mem
	t    [2]*ptab.Table
}

// roots are those of the tables; their leaves lie behind them.
func root(i int) int { return 1 + 5*i }

// start gives the tables entries, several of them of one frame, none of the tables' own.
func (p *play) start() {
	p.m, p.t[0] = make1(p.T, nil)
	p.t[1] = table(p.T, p.m, root(1), nil)
	for range 20 {
		i, page := p.dice.below(2), []int{0, 1, 2, 3, 4, 5, 64, 65, 250, 251, 252, 253, 254, 255}[p.dice.below(14)]
		entry := ptab.Pack(11+p.dice.below(13), []int{r, w, w, w, c}[p.dice.below(5)])
		p.t[i].Set(page, entry, root(i)+1+page>>6)
	}
	p.n = p.m.Fork()
}

// place is an address and how many bytes, mostly near to pages that are there.
func (p *play) place() (uint32, int) {
	addr := uint32(p.dice.below(6 * 256))
	switch p.dice.below(8) {
	case 0:
		addr = uint32(250*256 + p.dice.below(7*256))
	case 1:
		addr = ^uint32(0) - uint32(p.dice.below(1200))
	case 2:
		addr = uint32(63*256 + p.dice.below(3*256))
	}
	if p.dice.below(3) == 0 {
		return addr, p.dice.below(1025)
	}
	return addr, p.dice.below(300)
}

func (p *play) bytes(n int) []byte {
	b := make([]byte, n)
	for i := range b {
		b[i] = byte(p.dice.below(100)) // a 0 now and then
	}
	return b
}

func (p *play) step() {
	i, j := p.dice.below(2), p.dice.below(2)
	addr, n := p.place()
	switch p.dice.below(6) {
	case 0:
		b, page, e := copyio.In(p.m, p.t[i], addr, n)
		want, wantPage, wantE := read(p.n, root(i), addr, n)
		if !bytes.Equal(b, want) || page != wantPage || e != wantE {
			p.Fatal("In", addr, n, page, e, wantPage, wantE)
		}
	case 1:
		b := p.bytes(n)
		page, e := copyio.Out(p.m, p.t[i], addr, b)
		if want, wantE := write(p.n, root(i), addr, b); page != want || e != wantE {
			p.Fatal("Out", addr, n, page, e, want, wantE)
		}
	case 2:
		s, page, e := copyio.Text(p.m, p.t[i], addr, n+1-n/1024)
		want, wantPage, wantE := text(p.n, root(i), addr, n+1-n/1024)
		if s != want || page != wantPage || e != wantE {
			p.Fatal("Text", addr, n, s, page, e, want, wantPage, wantE)
		}
	case 3:
		p.word(i, addr)
	case 4:
		to, _ := p.place()
		page, e := copyio.Move(p.m, p.t[i], addr, p.t[j], to, n)
		b, want, wantE := read(p.n, root(i), addr, n)
		if wantE == api.OK {
			want, wantE = write(p.n, root(j), to, b)
		}
		if page != want || e != wantE {
			p.Fatal("Move", addr, to, n, page, e, want, wantE)
		}
	default:
		p.missing(i, addr, n)
	}
}

func (p *play) word(i int, addr uint32) {
	b := p.bytes(4)
	x := uint32(b[0]) + uint32(b[1])*256 + uint32(b[2])*65536 + uint32(b[3])*16777216
	page, e := copyio.Store(p.m, p.t[i], addr, x)
	if want, wantE := write(p.n, root(i), addr, b); page != want || e != wantE {
		p.Fatal("Store", addr, page, e, want, wantE)
	}
	got, page, e := copyio.Load(p.m, p.t[i], addr)
	b, want, wantE := read(p.n, root(i), addr, 4)
	if b == nil {
		b = make([]byte, 4)
	}
	x = uint32(b[0]) + uint32(b[1])*256 + uint32(b[2])*65536 + uint32(b[3])*16777216
	if got != x || page != want || e != wantE {
		p.Fatal("Load", addr, got, page, e, x, want, wantE)
	}
}

func (p *play) missing(i int, addr uint32, n int) {
	for _, write := range []bool{false, true} {
		want, missing := 0, false
		for k := 0; k < n && !missing; k++ {
			if _, page, ok := find(p.n, root(i), uint64(addr)+uint64(k), write); !ok {
				want, missing = page, true
			}
		}
		if page, ok := copyio.Missing(p.t[i], addr, n, write); page != want || ok != missing {
			p.Fatal("Missing", addr, n, write, page, ok, want, missing)
		}
	}
	next := uint64(addr) / 256
	l := copyio.Pages(addr, n)
	for _, page := range l {
		if uint64(page) != next {
			p.Fatal("Pages", addr, n, page, next)
		}
		next++
	}
	if n == 0 && len(l) > 0 || n > 0 && (len(l) == 0 || (uint64(addr)+uint64(n)-1)/256 != next-1) {
		p.Fatal("Pages", addr, n, next)
	}
}

// P14.1 to P14.5: whatever pages are missing, or are one frame, what is read and written is what goes byte by byte.
func TestAgainstModel(t *testing.T) {
	p := &play{T: t, dice: 14}
	for range 150 {
		p.start()
		for range 40 {
			p.step()
			if !bytes.Equal(all(p.m), all(p.n)) {
				t.Fatal("the memory is another one than the model's")
			}
		}
	}
}
