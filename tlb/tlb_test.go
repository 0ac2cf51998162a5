package tlb_test

import (
	"math"
	"slices"
	"testing"

	"parapet/api"
	"parapet/tlb"
)

var noHarts = []int{math.MinInt, -1, 3, 7, 8, math.MaxInt}

// key is short for a space and a page.
func key(space, page int) api.Key {
	return api.Key{Space: space, Page: page}
}

// make1 is three harts, that keep at most so much.
func make1(t *testing.T, size int) *tlb.Tlb {
	t.Helper()
	x, e := tlb.New(3, size)
	if e != api.OK || x == nil {
		t.Fatal("New", x, e)
	}
	return x
}

// fills lets a hart keep entries, each its own, under some keys.
func fills(t *testing.T, x *tlb.Tlb, hart int, keys ...api.Key) {
	t.Helper()
	for _, k := range keys {
		if e := x.Fill(hart, k, uint32(1000*k.Space+k.Page)); e != api.OK {
			t.Fatal("Fill", hart, k, e)
		}
	}
}

// keeps holds that a hart keeps these keys, in this order, and nothing else.
func keeps(t *testing.T, x *tlb.Tlb, hart int, want ...api.Key) {
	t.Helper()
	if got := x.Kept(hart); !slices.Equal(got, want) {
		t.Errorf("Kept(%d): %v, not %v", hart, got, want)
	}
	for space := range 5 {
		for page := range 10 {
			k := key(space, page)
			entry, ok := x.Look(hart, k)
			if ok != slices.Contains(want, k) || ok && entry != uint32(1000*space+page) || !ok && entry != 0 {
				t.Errorf("Look(%d, %v): %d %v", hart, k, entry, ok)
			}
		}
	}
}

// starts begins a shootdown, and holds its number.
func starts(t *testing.T, x *tlb.Tlb, want, space int, targets ...int) {
	t.Helper()
	if id, e := x.Start(space, targets); id != want || e != api.OK {
		t.Fatalf("Start(%d, %v): %d %v, not %d", space, targets, id, e, want)
	}
}

// pends holds what is pending at a hart.
func pends(t *testing.T, x *tlb.Tlb, hart int, want ...int) {
	t.Helper()
	if got := x.Pending(hart); !slices.Equal(got, want) {
		t.Errorf("Pending(%d): %v, not %v", hart, got, want)
	}
}

// handles holds how many interrupts a hart handles.
func handles(t *testing.T, x *tlb.Tlb, hart, want int) {
	t.Helper()
	if n := x.Handle(hart); n != want {
		t.Errorf("Handle(%d): %d, not %d", hart, n, want)
	}
	pends(t, x, hart)
}

// over holds which of the shootdowns 1 to most are over, and how many are not.
func over(t *testing.T, x *tlb.Tlb, most int, want ...int) {
	t.Helper()
	for id := 1; id <= most; id++ {
		if x.Over(id) != slices.Contains(want, id) {
			t.Errorf("Over(%d): %v", id, x.Over(id))
		}
	}
	for _, id := range []int{math.MinInt, -1, 0, most + 1, most + 2, math.MaxInt} {
		if x.Over(id) {
			t.Errorf("Over(%d), which none has", id)
		}
	}
	if n := x.Open(); n != most-len(want) {
		t.Errorf("Open: %d, not %d", n, most-len(want))
	}
}

// P7.1

func TestNewOfWhatMayNotBe(t *testing.T) {
	for _, c := range [][2]int{
		{0, 8}, {-1, 8}, {9, 8}, {math.MinInt, 8}, {math.MaxInt, 8},
		{2, 0}, {2, -1}, {2, 65}, {2, math.MinInt}, {2, math.MaxInt}, {0, 0}, {9, 65},
	} {
		if x, e := tlb.New(c[0], c[1]); x != nil || e != api.ErrArg {
			t.Error("New", c, x, e)
		}
	}
}

func TestNewKeepsNothing(t *testing.T) {
	for harts := 1; harts <= api.MaxHarts; harts++ {
		for _, size := range []int{1, 2, 63, 64} {
			x, e := tlb.New(harts, size)
			if e != api.OK || x.Harts() != harts || x.Open() != 0 {
				t.Fatal("New", harts, size, e)
			}
			for hart := range api.MaxHarts + 1 {
				keeps(t, x, hart)
				pends(t, x, hart)
				want := api.OK
				if hart >= harts {
					want = api.ErrArg
				}
				if e := x.Fill(hart, key(1, 1), 7); e != want {
					t.Error(harts, "harts, Fill", hart, e)
				}
			}
		}
	}
}

func TestLook(t *testing.T) {
	x := make1(t, 8)
	entries := map[api.Key]uint32{
		key(1, 5): 0x903, key(5, 1): 7, key(0, 0): 0, key(1, 6): math.MaxUint32, key(-1, 5): 2,
		key(math.MaxInt, math.MinInt): 3, key(math.MinInt, math.MaxInt): 4,
	}
	for k, entry := range entries {
		if e := x.Fill(1, k, entry); e != api.OK {
			t.Error("Fill", k, e)
		}
	}
	for k, want := range entries {
		if entry, ok := x.Look(1, k); entry != want || !ok {
			t.Error("Look", k, entry, ok)
		}
		for _, hart := range append([]int{0, 2}, noHarts...) {
			if entry, ok := x.Look(hart, k); entry != 0 || ok {
				t.Error("Look of another hart", hart, k, entry, ok)
			}
		}
	}
	for _, k := range []api.Key{key(1, 4), key(6, 1), key(5, 5), key(0, 1), key(1, 0), key(1, -5)} {
		if entry, ok := x.Look(1, k); entry != 0 || ok {
			t.Error("Look of none", k, entry, ok)
		}
	}
}

func TestFillRefusesNoHart(t *testing.T) {
	x := make1(t, 2)
	fills(t, x, 0, key(1, 1))
	for _, hart := range noHarts {
		if e := x.Fill(hart, key(1, 2), 9); e != api.ErrArg {
			t.Error("Fill", hart, e)
		}
		if l := x.Kept(hart); len(l) != 0 {
			t.Error("Kept", hart, l)
		}
	}
	keeps(t, x, 0, key(1, 1))
	keeps(t, x, 1)
	keeps(t, x, 2)
}

func TestFillTakesThePlaceOfTheFirst(t *testing.T) {
	x := make1(t, 3)
	fills(t, x, 0, key(2, 9), key(1, 1), key(3, 0))
	keeps(t, x, 0, key(2, 9), key(1, 1), key(3, 0))
	fills(t, x, 0, key(0, 5))
	keeps(t, x, 0, key(1, 1), key(3, 0), key(0, 5))
	fills(t, x, 0, key(2, 9), key(2, 8))
	keeps(t, x, 0, key(0, 5), key(2, 9), key(2, 8))
	keeps(t, x, 1)
}

func TestFillOfTheMost(t *testing.T) {
	for _, size := range []int{1, 2, 63, 64} {
		x := make1(t, size)
		var want []api.Key
		for page := range 3 * size {
			fills(t, x, 2, key(page%3, page))
			want = append(want, key(page%3, page))
			want = want[max(0, len(want)-size):]
			if l := x.Kept(2); !slices.Equal(l, want) {
				t.Fatal("Kept", size, page, l)
			}
		}
	}
}

// What is filled anew stays where it is in the order, and nothing else goes for it.
func TestFillAnew(t *testing.T) {
	x := make1(t, 3)
	fills(t, x, 0, key(1, 1), key(1, 2))
	x.Fill(0, key(1, 1), 77)
	if l := x.Kept(0); !slices.Equal(l, []api.Key{key(1, 1), key(1, 2)}) {
		t.Error("Kept", l)
	}
	if entry, ok := x.Look(0, key(1, 1)); entry != 77 || !ok {
		t.Error("Look", entry, ok)
	}
	fills(t, x, 0, key(1, 3), key(1, 2), key(1, 1), key(1, 3))
	keeps(t, x, 0, key(1, 1), key(1, 2), key(1, 3))
	fills(t, x, 0, key(1, 4))
	keeps(t, x, 0, key(1, 2), key(1, 3), key(1, 4))
	x.Fill(0, key(1, 2), 0)
	if entry, ok := x.Look(0, key(1, 2)); entry != 0 || !ok {
		t.Error("Look of an entry 0", entry, ok)
	}
	fills(t, x, 0, key(1, 5))
	keeps(t, x, 0, key(1, 3), key(1, 4), key(1, 5))
}

func TestFlush(t *testing.T) {
	x := make1(t, 5)
	l := []api.Key{key(1, 1), key(2, 1), key(1, 2), key(3, 1), key(1, 3)}
	fills(t, x, 0, l...)
	fills(t, x, 1, l...)
	for _, hart := range noHarts {
		if n := x.Flush(hart, 1); n != 0 {
			t.Error("Flush of no hart", hart, n)
		}
	}
	for _, c := range []struct{ space, want int }{{4, 0}, {0, 0}, {-1, 0}, {1, 3}, {1, 0}} {
		if n := x.Flush(0, c.space); n != c.want {
			t.Error("Flush", c.space, n)
		}
	}
	keeps(t, x, 0, key(2, 1), key(3, 1))
	keeps(t, x, 1, l...)
	fills(t, x, 0, key(1, 1), key(4, 4), key(1, 3))
	keeps(t, x, 0, key(2, 1), key(3, 1), key(1, 1), key(4, 4), key(1, 3))
	fills(t, x, 0, key(4, 5))
	keeps(t, x, 0, key(3, 1), key(1, 1), key(4, 4), key(1, 3), key(4, 5))
	if n := x.Flush(0, 3); n != 1 {
		t.Error("Flush", n)
	}
	if n := x.Flush(0, 1) + x.Flush(0, 4); n != 4 {
		t.Error("Flush of the rest", n)
	}
	keeps(t, x, 0)
}

func TestFlushAcknowledgesNothing(t *testing.T) {
	x := make1(t, 4)
	starts(t, x, 1, 1, 0)
	x.Flush(0, 1)
	pends(t, x, 0, 1)
	over(t, x, 1)
}

// P7.2

func TestStartNumbers(t *testing.T) {
	x := make1(t, 4)
	starts(t, x, 1, 5, 0)
	starts(t, x, 2, 5, 2, 0)
	starts(t, x, 3, math.MinInt)
	starts(t, x, 4, -7, 2, 1, 0)
	pends(t, x, 0, 1, 2, 4)
	pends(t, x, 1, 4)
	pends(t, x, 2, 2, 4)
	over(t, x, 4, 3)
	handles(t, x, 0, 3)
	over(t, x, 4, 1, 3)
	handles(t, x, 2, 2)
	starts(t, x, 5, 5, 2)
	pends(t, x, 2, 5)
	over(t, x, 5, 1, 2, 3)
	handles(t, x, 1, 1)
	handles(t, x, 2, 1)
	over(t, x, 5, 1, 2, 3, 4, 5)
	starts(t, x, 6, 5)
}

func TestStartRefuses(t *testing.T) {
	x := make1(t, 4)
	starts(t, x, 1, 1, 0)
	for _, targets := range [][]int{
		{-1}, {3}, {8}, {math.MinInt}, {math.MaxInt}, {0, 3}, {3, 0}, {0, 1, 2, -1},
		{0, 0}, {1, 1}, {2, 0, 2}, {0, 1, 2, 0}, {0, 1, 2, 1, 0}, {3, 3},
	} {
		if id, e := x.Start(1, targets); id != 0 || e != api.ErrArg {
			t.Error("Start", targets, id, e)
		}
	}
	pends(t, x, 0, 1)
	pends(t, x, 1)
	pends(t, x, 2)
	over(t, x, 1)
	starts(t, x, 2, 1, 2)
}

func TestStartOfAllHarts(t *testing.T) {
	x, _ := tlb.New(api.MaxHarts, 1)
	starts(t, x, 1, 1, 7, 6, 5, 4, 3, 2, 1, 0)
	for hart := range api.MaxHarts {
		over(t, x, 1)
		pends(t, x, hart, 1)
		handles(t, x, hart, 1)
	}
	over(t, x, 1, 1)
}

func TestStartWithoutTargets(t *testing.T) {
	x := make1(t, 4)
	fills(t, x, 0, key(1, 1))
	starts(t, x, 1, 1)
	if id, e := x.Start(1, []int{}); id != 2 || e != api.OK {
		t.Error("Start", id, e)
	}
	over(t, x, 2, 1, 2)
	handles(t, x, 0, 0)
	keeps(t, x, 0, key(1, 1))
}

func TestHandleForgetsItsSpaces(t *testing.T) {
	x := make1(t, 8)
	l := []api.Key{key(1, 1), key(2, 1), key(3, 1), key(1, 2), key(2, 2)}
	for hart := range 3 {
		fills(t, x, hart, l...)
	}
	starts(t, x, 1, 1, 0, 1)
	starts(t, x, 2, 3, 0)
	starts(t, x, 3, 2, 1)
	starts(t, x, 4, 1, 0)
	for hart := range 3 {
		keeps(t, x, hart, l...)
	}
	handles(t, x, 0, 3)
	keeps(t, x, 0, key(2, 1), key(2, 2))
	keeps(t, x, 1, l...)
	keeps(t, x, 2, l...)
	over(t, x, 4, 2, 4)
	handles(t, x, 2, 0)
	keeps(t, x, 2, l...)
	handles(t, x, 1, 2)
	keeps(t, x, 1, key(3, 1))
	keeps(t, x, 0, key(2, 1), key(2, 2))
	over(t, x, 4, 1, 2, 3, 4)
}

func TestHandleOfNoHart(t *testing.T) {
	x := make1(t, 4)
	starts(t, x, 1, 1, 0, 1, 2)
	for _, hart := range noHarts {
		if n, l := x.Handle(hart), x.Pending(hart); n != 0 || len(l) != 0 {
			t.Error("Handle, Pending", hart, n, l)
		}
	}
	over(t, x, 1)
}

// P7.4: what was filled ahead of handling goes, also if it was filled behind the start; what is filled behind it stays, whoever has not acknowledged yet.
func TestWhatIsFilledMeanwhile(t *testing.T) {
	x := make1(t, 4)
	fills(t, x, 0, key(1, 1))
	starts(t, x, 1, 1, 0, 1)
	fills(t, x, 0, key(1, 2), key(2, 2))
	fills(t, x, 1, key(1, 3))
	handles(t, x, 0, 1)
	keeps(t, x, 0, key(2, 2))
	fills(t, x, 0, key(1, 4))
	handles(t, x, 0, 0)
	handles(t, x, 1, 1)
	keeps(t, x, 0, key(2, 2), key(1, 4))
	keeps(t, x, 1)
	over(t, x, 1, 1)
}

// P7.5

func TestNoOtherHartIsChanged(t *testing.T) {
	x := make1(t, 2)
	fills(t, x, 1, key(1, 1), key(2, 2))
	starts(t, x, 1, 1, 0, 2)
	for _, hart := range []int{0, 2} {
		fills(t, x, hart, key(1, 1), key(1, 2), key(1, 3), key(2, 2))
		x.Fill(hart, key(1, 1), 99)
		x.Fill(hart, key(2, 2), 99)
		x.Flush(hart, 2)
		handles(t, x, hart, 1)
		keeps(t, x, hart)
	}
	keeps(t, x, 1, key(1, 1), key(2, 2))
}

// P7.3

func TestOfNoTlb(t *testing.T) {
	for _, x := range []*tlb.Tlb{nil, {}} {
		for _, n := range []int{-1, 0, 1, 9} {
			if entry, ok := x.Look(n, key(1, 1)); entry != 0 || ok {
				t.Error("Look", entry, ok)
			}
			if e := x.Fill(n, key(1, 1), 7); e != api.ErrClosed {
				t.Error("Fill", e)
			}
			if x.Flush(n, 1) != 0 || x.Handle(n) != 0 || x.Over(n) {
				t.Error("Flush, Handle, Over")
			}
			if len(x.Kept(n)) != 0 || len(x.Pending(n)) != 0 {
				t.Error("Kept, Pending")
			}
			for _, targets := range [][]int{nil, {n}, {n, n}} {
				if id, e := x.Start(1, targets); id != 0 || e != api.ErrClosed {
					t.Error("Start", id, e)
				}
			}
		}
		if x.Harts() != 0 || x.Open() != 0 {
			t.Error("Harts, Open")
		}
	}
}

// R3

func TestListsAreNewMemory(t *testing.T) {
	x := make1(t, 8)
	fills(t, x, 0, key(1, 1), key(1, 2), key(2, 1))
	starts(t, x, 1, 5, 0)
	starts(t, x, 2, 5, 0)
	starts(t, x, 3, 5, 0)
	a, b := x.Kept(0), x.Kept(0)
	clear(a[:cap(a)])
	keeps(t, x, 0, b...)
	if len(b) != 3 || b[0] != key(1, 1) {
		t.Error("Kept", b)
	}
	p, q := x.Pending(0), x.Pending(0)
	clear(p[:cap(p)])
	pends(t, x, 0, q...)
	if !slices.Equal(q, []int{1, 2, 3}) {
		t.Error("Pending", q)
	}
}

func TestTargetsAreNotKept(t *testing.T) {
	x := make1(t, 8)
	room := []int{2, 0, 7, 7}
	starts(t, x, 1, 5, room[:2]...)
	if !slices.Equal(room, []int{2, 0, 7, 7}) {
		t.Error("targets have changed", room)
	}
	room[0], room[1] = 1, 1
	pends(t, x, 0, 1)
	pends(t, x, 1)
	pends(t, x, 2, 1)
}

func TestExample(t *testing.T) {
	x, _ := tlb.New(2, 2)
	fills(t, x, 0, key(1, 5), key(1, 6), key(2, 5))
	keeps(t, x, 0, key(1, 6), key(2, 5))
	starts(t, x, 1, 1, 0)
	over(t, x, 1)
	handles(t, x, 0, 1)
	keeps(t, x, 0, key(2, 5))
	over(t, x, 1, 1)
}
