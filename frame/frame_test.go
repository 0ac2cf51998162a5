package frame_test

import (
	"bytes"
	"maps"
	"math"
	"slices"
	"testing"

	"parapet/api"
	"parapet/frame"
	"parapet/phys"
)

const (
	size  = 40 // frames of the memory
	first = 4
	last  = first + count - 1
	count = 20
)

// noise is a memory none of whose bytes is 0: whatever is 0 then has been made so.
func noise(t *testing.T, frames int) *phys.Mem {
	t.Helper()
	m, e := phys.New(frames)
	if e != api.OK {
		t.Fatal("phys.New", e)
	}
	b := make([]byte, frames*api.PageSize)
	for i := range b {
		b[i] = byte(1 + i%255)
	}
	m.Write(0, b)
	return m
}

// make1 is frames 4 to 23, for so many harts.
func make1(t *testing.T, harts int) (*phys.Mem, *frame.Frames) {
	t.Helper()
	m := noise(t, size)
	f, e := frame.New(m, first, count, harts)
	if e != api.OK || f == nil {
		t.Fatal("New", f, e)
	}
	return m, f
}

// span is the numbers from one to another.
func span(from, to int) []int {
	var l []int
	for i := from; i <= to; i++ {
		l = append(l, i)
	}
	return l
}

// takes holds that a hart is given these frames, in order.
func takes(t *testing.T, f *frame.Frames, hart int, want ...int) {
	t.Helper()
	for _, w := range want {
		if got, e := f.Alloc(hart); got != w || e != api.OK {
			t.Fatalf("Alloc(%d): %d %v, not %d", hart, got, e, w)
		}
	}
}

// gives holds that these frames are free when a hart has given them back.
func gives(t *testing.T, f *frame.Frames, hart int, frames ...int) {
	t.Helper()
	for _, n := range frames {
		if freed, e := f.Decr(hart, n); !freed || e != api.OK {
			t.Fatalf("Decr(%d, %d): %v %v", hart, n, freed, e)
		}
	}
}

// stand holds the lists of harts 0, 1 and so on, and that all the rest of the free frames are common.
func stand(t *testing.T, f *frame.Frames, lists ...[]int) {
	t.Helper()
	where := map[int]int{}
	for i, want := range lists {
		if got := f.List(i); !slices.Equal(got, want) {
			t.Errorf("List(%d): %v, not %v", i, got, want)
		}
		for _, n := range want {
			where[n]++
		}
	}
	for n := range f.All() {
		where[n]++
	}
	var common []int
	for n := first; n <= last; n++ {
		if where[n] == 0 {
			common = append(common, n)
		}
	}
	if got := f.Common(); !slices.Equal(got, common) {
		t.Errorf("Common: %v, not %v", got, common)
	}
	if !f.Right() {
		t.Error("Right")
	}
}

func all(m *phys.Mem) []byte {
	b, _ := m.Read(0, m.Frames()*api.PageSize)
	return b
}

// state is all that a Frames and its memory tell.
type state struct {
	bytes      string
	counts     [size]int
	free, used int
	lists      [8][2]int // how many, and the last one
	common     int
}

func tell(m *phys.Mem, f *frame.Frames) state {
	s := state{bytes: string(all(m)), free: f.Free(), used: f.Used(), common: len(f.Common())}
	for i := range size {
		s.counts[i] = f.Count(i)
	}
	for i := range 8 {
		if l := f.List(i); len(l) > 0 {
			s.lists[i] = [2]int{len(l), l[len(l)-1]}
		}
	}
	return s
}

// P6.1

func TestNewOfWhatMayNotBe(t *testing.T) {
	m := noise(t, size)
	was := all(m)
	for _, c := range []struct {
		m                   *phys.Mem
		first, count, harts int
	}{
		{nil, first, count, 2}, {nil, 0, 0, 0},
		{m, first, count, 0}, {m, first, count, -1}, {m, first, count, 9}, {m, first, count, math.MaxInt}, {m, first, count, math.MinInt},
		{m, first, 0, 2}, {m, first, -1, 2}, {m, 0, math.MinInt, 2},
		{m, -1, 1, 2}, {m, -1, 2, 2}, {m, -1, size, 2}, {m, math.MinInt, 1, 2}, {m, math.MinInt, math.MaxInt, 2},
		{m, size, 1, 2}, {m, size - 1, 2, 2}, {m, 0, size + 1, 2}, {m, 1, size, 2}, {m, size + 1, 1, 2},
		{m, math.MaxInt, 1, 2}, {m, 1, math.MaxInt, 2}, {m, math.MaxInt, math.MaxInt, 2}, {m, 0, math.MaxInt, 2},
	} {
		if f, e := frame.New(c.m, c.first, c.count, c.harts); f != nil || e != api.ErrArg {
			t.Error("New", c.first, c.count, c.harts, f, e)
		}
	}
	if !bytes.Equal(all(m), was) {
		t.Error("the memory has changed")
	}
}

func TestNewIsFree(t *testing.T) {
	for _, c := range []struct{ first, count, harts int }{{4, 20, 2}, {0, size, 8}, {size - 1, 1, 1}, {0, 1, 8}, {7, 3, 5}} {
		m := noise(t, size)
		want := all(m)
		clear(want[c.first*api.PageSize : (c.first+c.count)*api.PageSize])
		f, e := frame.New(m, c.first, c.count, c.harts)
		if e != api.OK {
			t.Fatal("New", c, e)
		}
		if !bytes.Equal(all(m), want) {
			t.Error(c, "bytes that are not 0, or other ones that have changed")
		}
		if f.Free() != c.count || f.Used() != 0 || !f.Right() {
			t.Error(c, f.Free(), f.Used(), f.Right())
		}
		if l := f.Common(); !slices.Equal(l, span(c.first, c.first+c.count-1)) {
			t.Error(c, "Common", l)
		}
		for hart := range 8 {
			if l := f.List(hart); len(l) != 0 {
				t.Error(c, "List", hart, l)
			}
		}
	}
}

func TestNewHasSoManyHarts(t *testing.T) {
	for harts := 1; harts <= api.MaxHarts; harts++ {
		_, f := make1(t, harts)
		for hart := range api.MaxHarts + 1 {
			want := api.OK
			if hart >= harts {
				want = api.ErrArg
			}
			if _, e := f.Alloc(hart); e != want {
				t.Error(harts, "harts, Alloc", hart, e)
			}
		}
	}
}

func TestNewOfAllThatThereMayBe(t *testing.T) {
	m := noise(t, api.MaxFrames)
	f, e := frame.New(m, 0, api.MaxFrames, api.MaxHarts)
	if e != api.OK || f.Free() != api.MaxFrames || !f.Right() {
		t.Fatal("New", e)
	}
	for i := range api.MaxFrames {
		if _, e := f.Alloc(i % 8); e != api.OK {
			t.Fatal("Alloc", i, e)
		}
	}
	if n, e := f.Alloc(3); n != 0 || e != api.ErrFull || f.Used() != api.MaxFrames {
		t.Error("Alloc", n, e, f.Used())
	}
}

// P6.2: who takes which frame.

func TestFirstOnesOfTheCommonOnesGoToAHart(t *testing.T) {
	_, f := make1(t, 2)
	takes(t, f, 0, 11)
	stand(t, f, span(4, 10), nil)
	takes(t, f, 1, 19)
	stand(t, f, span(4, 10), span(12, 18))
	takes(t, f, 0, 10, 9, 8, 7, 6, 5, 4)
	stand(t, f, nil, span(12, 18))
	takes(t, f, 0, 23)
	stand(t, f, span(20, 22), span(12, 18))
	if len(f.Common()) != 0 {
		t.Error("Common", f.Common())
	}
}

func TestAFrameGoesBehindTheListOfWhoGivesIt(t *testing.T) {
	_, f := make1(t, 2)
	takes(t, f, 0, 11, 10)
	gives(t, f, 1, 11)
	stand(t, f, span(4, 9), []int{11})
	gives(t, f, 1, 10)
	stand(t, f, span(4, 9), []int{11, 10})
	takes(t, f, 1, 10, 11, 19)
}

func TestHalfOfTheLongestListGoesToAHart(t *testing.T) {
	_, f := make1(t, 4)
	takes(t, f, 0, 11)
	takes(t, f, 1, 19)
	takes(t, f, 2, 23)
	stand(t, f, span(4, 10), span(12, 18), span(20, 22), nil)
	takes(t, f, 3, 7)
	stand(t, f, span(8, 10), span(12, 18), span(20, 22), span(4, 6))
	takes(t, f, 3, 6, 5, 4, 15)
	stand(t, f, span(8, 10), span(16, 18), span(20, 22), span(12, 14))
	takes(t, f, 3, 14, 13, 12, 9)
	stand(t, f, []int{10}, span(16, 18), span(20, 22), []int{8})
	takes(t, f, 3, 8, 17)
	stand(t, f, []int{10}, []int{18}, span(20, 22), []int{16})
	takes(t, f, 0, 10, 21)
	stand(t, f, []int{20}, []int{18}, []int{22}, []int{16})
	takes(t, f, 3, 16, 20, 18, 22)
	stand(t, f, nil, nil, nil, nil)
	if f.Used() != count {
		t.Error("Used", f.Used())
	}
}

// A hart whose own list is not empty takes of it, whatever else there is.
func TestOwnListGoesFirst(t *testing.T) {
	_, f := make1(t, 2)
	takes(t, f, 0, 11)
	gives(t, f, 1, 11)
	takes(t, f, 1, 11)
	stand(t, f, span(4, 10), nil)
}

func TestTooLongAListGoesToTheCommonOnes(t *testing.T) {
	_, f := make1(t, 2)
	for range count {
		f.Alloc(0)
	}
	back := []int{23, 5, 21, 7, 19, 9, 17, 11, 15, 13, 4, 22, 6, 20, 8, 18}
	gives(t, f, 1, back...)
	stand(t, f, nil, back)
	if len(f.Common()) != 0 {
		t.Error("Common of a list of 16", f.Common())
	}
	gives(t, f, 1, 10)
	stand(t, f, nil, append(slices.Clone(back[8:]), 10))
	if l := f.Common(); !slices.Equal(l, []int{5, 7, 9, 11, 17, 19, 21, 23}) {
		t.Error("Common of a list of 17", l)
	}
	gives(t, f, 1, 16)
	gives(t, f, 1, 12)
	gives(t, f, 1, 14)
	stand(t, f, nil, append(slices.Clone(back[8:]), 10, 16, 12, 14))
	takes(t, f, 0, 23, 21)
}

// The common ones rise, also where what is given back lies between and ahead of those that are there.
func TestCommonOnesRise(t *testing.T) {
	m := noise(t, size)
	f, _ := frame.New(m, 0, size, 1)
	for range size {
		f.Alloc(0)
	}
	for n := size - 1; n > 0; n -= 2 {
		gives(t, f, 0, n)
	}
	a := f.Common()
	for n := size - 2; n >= 0; n -= 2 {
		gives(t, f, 0, n)
	}
	b := f.Common()
	if len(a) != 8 || len(b) != 24 || !slices.IsSorted(a) || !slices.IsSorted(b) || !f.Right() {
		t.Error("Common", a, b)
	}
}

func TestAllocRefuses(t *testing.T) {
	m, f := make1(t, 3)
	takes(t, f, 0, 11)
	was := tell(m, f)
	for _, hart := range []int{math.MinInt, -1, 3, 7, 8, math.MaxInt} {
		if n, e := f.Alloc(hart); n != 0 || e != api.ErrArg {
			t.Error("Alloc", hart, n, e)
		}
	}
	if tell(m, f) != was {
		t.Error("something has changed")
	}
	for f.Free() > 0 {
		f.Alloc(1)
	}
	was = tell(m, f)
	for hart := range 3 {
		if n, e := f.Alloc(hart); n != 0 || e != api.ErrFull {
			t.Error("Alloc of none", hart, n, e)
		}
	}
	if n, e := f.Alloc(3); n != 0 || e != api.ErrArg {
		t.Error("Alloc of none for nobody", n, e)
	}
	if tell(m, f) != was {
		t.Error("something has changed")
	}
}

// notUsed is frames that are free, or none of a Frames of whose only 11 and 10 are in use.
func notUsed() []int {
	return []int{math.MinInt, math.MinInt + 4, -1, 0, 3, 4, 9, 12, 23, 24, size - 1, size, math.MaxInt}
}

func TestIncrRefuses(t *testing.T) {
	m, f := make1(t, 2)
	takes(t, f, 0, 11, 10)
	was := tell(m, f)
	for _, n := range notUsed() {
		if e := f.Incr(n); e != api.ErrFrame {
			t.Error("Incr", n, e)
		}
	}
	if tell(m, f) != was {
		t.Error("something has changed")
	}
	gives(t, f, 0, 11)
	if e := f.Incr(11); e != api.ErrFrame {
		t.Error("Incr of what was given back", e)
	}
}

func TestIncrToTheMost(t *testing.T) {
	const most = 1 << 20
	_, f := make1(t, 2)
	takes(t, f, 0, 11, 10)
	for n := 1; n < most; n++ {
		if e := f.Incr(10); e != api.OK {
			t.Fatal("Incr", n, e)
		}
	}
	if n := f.Count(10); n != most {
		t.Error("Count", n)
	}
	for range 2 {
		if e := f.Incr(10); e != api.ErrFull || f.Count(10) != most {
			t.Error("Incr of the most", e, f.Count(10))
		}
	}
	if f.Count(11) != 1 {
		t.Error("another one", f.Count(11))
	}
	if freed, e := f.Decr(0, 10); freed || e != api.OK || f.Count(10) != most-1 {
		t.Error("Decr", freed, e)
	}
	if e := f.Incr(10); e != api.OK {
		t.Error("Incr behind a Decr", e)
	}
}

func TestDecr(t *testing.T) {
	m, f := make1(t, 2)
	takes(t, f, 0, 11, 10)
	f.Incr(10)
	f.Incr(10)
	m.Write(10*api.PageSize, bytes.Repeat([]byte{7}, 2*api.PageSize))
	want := all(m)
	for _, n := range []int{2, 1} {
		if freed, e := f.Decr(1, 10); freed || e != api.OK || f.Count(10) != n {
			t.Error("Decr", freed, e, f.Count(10))
		}
	}
	if !bytes.Equal(all(m), want) {
		t.Error("the memory has changed")
	}
	gives(t, f, 1, 10)
	clear(want[10*api.PageSize : 11*api.PageSize])
	if !bytes.Equal(all(m), want) || f.Count(10) != 0 {
		t.Error("bytes that are not 0, or other ones that have changed")
	}
	stand(t, f, span(4, 9), []int{10})
}

func TestDecrRefuses(t *testing.T) {
	m, f := make1(t, 2)
	takes(t, f, 0, 11, 10)
	was := tell(m, f)
	for _, hart := range []int{math.MinInt, -1, 2, 8, math.MaxInt} {
		for _, n := range []int{-1, 4, 10, 11, 24} {
			if freed, e := f.Decr(hart, n); freed || e != api.ErrArg {
				t.Error("Decr", hart, n, freed, e)
			}
		}
	}
	for _, n := range notUsed() {
		if freed, e := f.Decr(1, n); freed || e != api.ErrFrame {
			t.Error("Decr", n, freed, e)
		}
	}
	if tell(m, f) != was {
		t.Error("something has changed")
	}
	gives(t, f, 0, 11)
	if freed, e := f.Decr(0, 11); freed || e != api.ErrFrame {
		t.Error("Decr twice", freed, e)
	}
}

// P6.3

func TestCount(t *testing.T) {
	_, f := make1(t, 2)
	takes(t, f, 1, 11, 10)
	f.Incr(11)
	for _, n := range notUsed() {
		if f.Count(n) != 0 {
			t.Error("Count", n, f.Count(n))
		}
	}
	if f.Count(11) != 2 || f.Count(10) != 1 {
		t.Error("Count", f.Count(11), f.Count(10))
	}
	gives(t, f, 0, 10)
	f.Decr(0, 11)
	if f.Count(11) != 1 || f.Count(10) != 0 {
		t.Error("Count", f.Count(11), f.Count(10))
	}
}

func TestFreeAndUsed(t *testing.T) {
	_, f := make1(t, 3)
	for i := range count {
		if f.Free() != count-i || f.Used() != i {
			t.Error("Free, Used", i, f.Free(), f.Used())
		}
		f.Alloc(i % 3)
	}
	for n := first; n <= last; n++ {
		f.Incr(n)
		if f.Free() != n-first || f.Used() != last+1-n {
			t.Error("Free, Used", n, f.Free(), f.Used())
		}
		f.Decr(0, n)
		f.Decr(n%3, n)
	}
	if f.Free() != count || f.Used() != 0 {
		t.Error("Free, Used", f.Free(), f.Used())
	}
}

func TestListOfNoHart(t *testing.T) {
	_, f := make1(t, 2)
	takes(t, f, 0, 11)
	takes(t, f, 1, 19)
	for _, hart := range []int{math.MinInt, -1, 2, 7, 8, math.MaxInt} {
		if l := f.List(hart); len(l) != 0 {
			t.Error("List", hart, l)
		}
	}
}

func TestAll(t *testing.T) {
	m, f := make1(t, 2)
	seq := f.All()
	for range seq {
		t.Error("All of none")
	}
	takes(t, f, 0, 11, 10)
	takes(t, f, 1, 19)
	f.Incr(19)
	f.Incr(19)
	f.Incr(10)
	was := tell(m, f)
	for range 2 {
		var l []int
		for n, c := range seq {
			l = append(l, n, c)
		}
		if !slices.Equal(l, []int{10, 2, 11, 1, 19, 3}) {
			t.Error("All", l)
		}
	}
	for n := range 3 {
		var l []int
		for i := range seq {
			l = append(l, i)
			if len(l) > n {
				break
			}
		}
		if !slices.Equal(l, []int{10, 11, 19}[:n+1]) {
			t.Error("All, stopped", l)
		}
	}
	if tell(m, f) != was {
		t.Error("something has changed")
	}
	gives(t, f, 0, 11)
	if l := maps.Collect(seq); len(l) != 2 || l[10] != 2 || l[19] != 3 {
		t.Error("All anew", l)
	}
}

// The iterator takes one look, when it is ranged over: not when it is made, and not again.
func TestAllIsAsTheFramesAreAtFirst(t *testing.T) {
	_, f := make1(t, 2)
	seq := f.All()
	takes(t, f, 0, 11, 10, 9)
	var l []int
	for n, c := range seq {
		l = append(l, n, c)
		if n == 9 {
			f.Decr(0, 10)
			f.Incr(11)
			f.Alloc(1)
		}
	}
	if !slices.Equal(l, []int{9, 1, 10, 1, 11, 1}) {
		t.Error("All", l)
	}
	if l := maps.Collect(seq); len(l) != 3 || l[11] != 2 || l[10] != 0 {
		t.Error("All anew", l)
	}
}

// Free frames of every place: with a byte that is not 0 all is not right, wherever it is.
func TestRight(t *testing.T) {
	m, f := make1(t, 3)
	takes(t, f, 0, 11, 10)
	gives(t, f, 2, 11)
	m.Write(10*api.PageSize, bytes.Repeat([]byte{7}, api.PageSize))
	if !f.Right() {
		t.Error("with bytes in a frame that is in use, and beside its own")
	}
	for n := first; n <= last; n++ {
		for _, at := range []int{0, 1, 128, 255} {
			if n == 10 {
				continue
			}
			m.Store8(n*api.PageSize+at, 1)
			if f.Right() {
				t.Error("with a byte in frame", n)
			}
			m.Store8(n*api.PageSize+at, 0)
			if !f.Right() {
				t.Error("without a byte in frame", n)
			}
		}
	}
}

// P6.4

func TestOfNoFrames(t *testing.T) {
	for _, f := range []*frame.Frames{nil, {}} {
		if f.Count(0) != 0 || f.Free() != 0 || f.Used() != 0 || f.Right() {
			t.Error("Count, Free, Used, Right")
		}
		if len(f.List(0)) != 0 || len(f.Common()) != 0 {
			t.Error("List, Common")
		}
		for n, c := range f.All() {
			t.Error("All", n, c)
		}
		for _, n := range []int{-1, 0, 8} {
			if got, e := f.Alloc(n); got != 0 || e != api.ErrClosed {
				t.Error("Alloc", got, e)
			}
			if e := f.Incr(n); e != api.ErrClosed {
				t.Error("Incr", e)
			}
			if freed, e := f.Decr(n, n); freed || e != api.ErrClosed {
				t.Error("Decr", freed, e)
			}
		}
	}
}

// P6.5

// Whoever gets a frame finds bytes 0, whether they were written while it was in use, or while it was free.
func TestWhoGetsAFrameFindsZeros(t *testing.T) {
	m, f := make1(t, 2)
	for round := range 3 {
		if round > 0 {
			m.Write(first*api.PageSize, bytes.Repeat([]byte{9}, count*api.PageSize))
		}
		for i := range count {
			n, e := f.Alloc(i % 2)
			if e != api.OK {
				t.Fatal("Alloc", e)
			}
			if b, _ := m.Frame(n); !bytes.Equal(b, make([]byte, api.PageSize)) {
				t.Error("frame", n, "is not zeros")
			}
			m.Write(n*api.PageSize, bytes.Repeat([]byte{8}, api.PageSize))
		}
		for n := first; n <= last; n++ {
			gives(t, f, n%2, n)
		}
	}
	want := all(noise(t, size))
	got := all(m)
	if !bytes.Equal(got[:first*api.PageSize], want[:first*api.PageSize]) || !bytes.Equal(got[(last+1)*api.PageSize:], want[(last+1)*api.PageSize:]) {
		t.Error("frames that are none of its own have changed")
	}
}

// R3

func TestListsAreNewMemory(t *testing.T) {
	_, f := make1(t, 2)
	takes(t, f, 0, 11, 10)
	for _, list := range []func() []int{func() []int { return f.List(0) }, f.Common} {
		a, b := list(), list()
		want := slices.Clone(a)
		clear(a[:cap(a)])
		_ = append(a[:0], 1, 2, 3)
		if !slices.Equal(b, want) || !slices.Equal(list(), want) {
			t.Error("two answers share memory")
		}
	}
	stand(t, f, span(4, 9), nil)
}
