package resv_test

import (
	"math"
	"slices"
	"testing"

	"parapet/api"
	"parapet/resv"
)

func make1(t *testing.T, heap int) *resv.Gate {
	t.Helper()
	g, e := resv.New(heap)
	if e != api.OK || g == nil {
		t.Fatal("New", heap, g, e)
	}
	return g
}

// comes lets a call come, and holds whether it is let in.
func comes(t *testing.T, g *resv.Gate, id, bound int, want bool) {
	t.Helper()
	if in, e := g.Enter(id, bound); in != want || e != api.OK {
		t.Fatalf("Enter(%d, %d): %v %v, not %v", id, bound, in, e, want)
	}
}

func takes(t *testing.T, g *resv.Gate, id, n int) {
	t.Helper()
	if e := g.Take(id, n); e != api.OK {
		t.Fatalf("Take(%d, %d): %v", id, n, e)
	}
}

// gives holds who is let in when bytes are given back.
func gives(t *testing.T, g *resv.Gate, n int, want ...int) {
	t.Helper()
	if in, e := g.Give(n); !slices.Equal(in, want) || e != api.OK {
		t.Fatalf("Give(%d): %v %v, not %v", n, in, e, want)
	}
}

// leaves holds who is let in when a call goes.
func leaves(t *testing.T, g *resv.Gate, id int, want ...int) {
	t.Helper()
	if in, e := g.Leave(id); !slices.Equal(in, want) || e != api.OK {
		t.Fatalf("Leave(%d): %v %v, not %v", id, in, e, want)
	}
	if g.Inside(id) {
		t.Fatal("inside, though it left", id)
	}
}

func in(id, bound, taken int) api.Seat {
	return api.Seat{Id: id, Bound: bound, Taken: taken}
}

func out(id, bound int) api.Seat {
	return api.Seat{Id: id, Bound: bound, Waits: true}
}

// stands holds the bytes that live, all seats, and what follows from them.
func stands(t *testing.T, g *resv.Gate, size, live int, want ...api.Seat) {
	t.Helper()
	if l := g.Seats(); !slices.Equal(l, want) {
		t.Errorf("Seats: %v, not %v", l, want)
	}
	reserved := 0
	for _, s := range want {
		if !s.Waits {
			reserved += s.Bound
		}
		if g.Inside(s.Id) == s.Waits {
			t.Error("Inside", s.Id)
		}
	}
	if h := g.Heap(); h != (api.Heap{Size: size, Live: live, Reserved: reserved}) {
		t.Errorf("Heap: %v, not %d %d %d", h, size, live, reserved)
	}
	if stalled := len(want) > 0 && want[0].Waits; g.Stalled() != stalled {
		t.Error("Stalled", g.Stalled())
	}
}

// P9.1

func TestNew(t *testing.T) {
	for _, heap := range []int{math.MinInt, -1, 0, 1<<30 + 1, 1 << 31, math.MaxInt} {
		if g, e := resv.New(heap); g != nil || e != api.ErrArg {
			t.Error("New", heap, g, e)
		}
	}
	for _, heap := range []int{1, 2, 100, 1 << 20, 1<<30 - 1, 1 << 30} {
		g := make1(t, heap)
		stands(t, g, heap, 0)
		for _, id := range []int{math.MinInt, -1, 0, 1, math.MaxInt} {
			if g.Inside(id) {
				t.Error("Inside", id)
			}
		}
		comes(t, g, 1, heap, true)
		stands(t, g, heap, 0, in(1, heap, 0))
	}
}

// Those inside stand in the order in which they were let in, also when one of them goes; then those that wait.
func TestSeats(t *testing.T) {
	g := make1(t, 100)
	comes(t, g, 9, 30, true)
	comes(t, g, 2, 40, true)
	comes(t, g, 5, 30, true)
	comes(t, g, 1, 20, false)
	comes(t, g, 7, 50, false)
	comes(t, g, 3, 0, false)
	takes(t, g, 2, 15)
	stands(t, g, 100, 15, in(9, 30, 0), in(2, 25, 15), in(5, 30, 0), out(1, 20), out(7, 50), out(3, 0))
	leaves(t, g, 9, 1)
	stands(t, g, 100, 15, in(2, 25, 15), in(5, 30, 0), in(1, 20, 0), out(7, 50), out(3, 0))
	comes(t, g, 9, 5, false)
	leaves(t, g, 5)
	stands(t, g, 100, 15, in(2, 25, 15), in(1, 20, 0), out(7, 50), out(3, 0), out(9, 5))
	leaves(t, g, 1, 7, 3, 9)
	stands(t, g, 100, 15, in(2, 25, 15), in(7, 50, 0), in(3, 0, 0), in(9, 5, 0))
}

// P9.2

func TestEnterRefuses(t *testing.T) {
	g := make1(t, 100)
	comes(t, g, 1, 60, true)
	comes(t, g, 2, 50, false)
	for _, c := range []struct {
		id, bound int
		want      api.Errno
	}{
		{3, -1, api.ErrArg}, {3, math.MinInt, api.ErrArg}, {1, -1, api.ErrArg}, {2, -1, api.ErrArg},
		{1, 0, api.ErrBusy}, {1, 60, api.ErrBusy}, {2, 50, api.ErrBusy}, {1, 101, api.ErrBusy}, {2, math.MaxInt, api.ErrBusy},
		{3, 101, api.ErrLong}, {3, math.MaxInt, api.ErrLong},
	} {
		if in, e := g.Enter(c.id, c.bound); in || e != c.want {
			t.Error("Enter", c, in, e)
		}
	}
	stands(t, g, 100, 0, in(1, 60, 0), out(2, 50))
}

// crowd lets calls come till there are as many as may be, of which so many are inside.
func crowd(t *testing.T, inside int) *resv.Gate {
	g := make1(t, 100)
	for id := range inside - 1 {
		comes(t, g, id, 0, true)
	}
	comes(t, g, inside-1, 100, true)
	for id := inside; id < api.MaxInside; id++ {
		comes(t, g, id, 1, false)
	}
	return g
}

func TestEnterOfTheMost(t *testing.T) {
	for _, inside := range []int{1, 30, 63, 64} {
		g := crowd(t, inside)
		was := g.Seats()
		if len(was) != 64 {
			t.Fatal("Seats", len(was))
		}
		for _, c := range []struct {
			id, bound int
			want      api.Errno
		}{
			{64, 0, api.ErrFull}, {-1, 100, api.ErrFull}, {64, -1, api.ErrArg}, {63, 0, api.ErrBusy}, {0, 101, api.ErrBusy}, {64, 101, api.ErrLong},
		} {
			if in, e := g.Enter(c.id, c.bound); in || e != c.want {
				t.Error("Enter", inside, c, in, e)
			}
		}
		stands(t, g, 100, 0, was...)
		if _, e := g.Leave(63); e != api.OK {
			t.Error("Leave", e)
		}
		if _, e := g.Enter(64, 0); e != api.OK {
			t.Error("Enter, when one has gone", e)
		}
	}
}

// What lives, what is reserved and the bound together are held against the heap, to the byte.
func TestEnterToTheByte(t *testing.T) {
	g := make1(t, 100)
	comes(t, g, 1, 60, true)
	takes(t, g, 1, 25)
	for _, c := range []struct {
		bound int
		want  bool
	}{{0, true}, {39, true}, {40, true}, {41, false}, {100, false}} {
		comes(t, g, 2, c.bound, c.want)
		if g.Inside(2) != c.want || g.Stalled() {
			t.Error("Inside, Stalled", c)
		}
		leaves(t, g, 2)
	}
	leaves(t, g, 1)
	stands(t, g, 100, 25)
	comes(t, g, 2, 76, false)
	stands(t, g, 100, 25, out(2, 76))
	leaves(t, g, 2)
	comes(t, g, 2, 75, true)
	stands(t, g, 100, 25, in(2, 75, 0))
}

// Who comes behind one that waits, waits: were it for no byte.
func TestEnterBehindOneThatWaits(t *testing.T) {
	g := make1(t, 100)
	comes(t, g, 1, 60, true)
	comes(t, g, 2, 41, false)
	comes(t, g, 3, 1, false)
	comes(t, g, 4, 0, false)
	comes(t, g, 5, 100, false)
	stands(t, g, 100, 0, in(1, 60, 0), out(2, 41), out(3, 1), out(4, 0), out(5, 100))
}

func TestIdsAreAnyNumbers(t *testing.T) {
	g := make1(t, 100)
	ids := []int{0, -1, math.MinInt, math.MaxInt, 7}
	for i, id := range ids {
		comes(t, g, id, 30, i < 3)
	}
	takes(t, g, math.MinInt, 10)
	stands(t, g, 100, 10, in(0, 30, 0), in(-1, 30, 0), in(math.MinInt, 20, 10), out(math.MaxInt, 30), out(7, 30))
	leaves(t, g, -1, math.MaxInt)
	leaves(t, g, math.MinInt, 7)
	stands(t, g, 100, 10, in(0, 30, 0), in(math.MaxInt, 30, 0), in(7, 30, 0))
}

func TestTake(t *testing.T) {
	g := make1(t, 100)
	comes(t, g, 1, 50, true)
	comes(t, g, 2, 50, true)
	takes(t, g, 1, 0)
	stands(t, g, 100, 0, in(1, 50, 0), in(2, 50, 0))
	takes(t, g, 1, 20)
	takes(t, g, 2, 50)
	takes(t, g, 1, 29)
	stands(t, g, 100, 99, in(1, 1, 49), in(2, 0, 50))
	takes(t, g, 1, 1)
	takes(t, g, 2, 0)
	stands(t, g, 100, 100, in(1, 0, 50), in(2, 0, 50))
	for _, id := range []int{1, 2} {
		if e := g.Take(id, 1); e != api.ErrBound {
			t.Error("Take of more", id, e)
		}
	}
	stands(t, g, 100, 100, in(1, 0, 50), in(2, 0, 50))
}

func TestTakeRefuses(t *testing.T) {
	g := make1(t, 100)
	comes(t, g, 1, 60, true)
	comes(t, g, 2, 50, false)
	takes(t, g, 1, 10)
	for _, c := range []struct {
		id, n int
		want  api.Errno
	}{
		{1, -1, api.ErrArg}, {2, -1, api.ErrArg}, {3, math.MinInt, api.ErrArg},
		{2, 0, api.ErrNone}, {2, 51, api.ErrNone}, {3, 0, api.ErrNone}, {0, 1, api.ErrNone}, {-1, math.MaxInt, api.ErrNone},
		{1, 51, api.ErrBound}, {1, 60, api.ErrBound}, {1, math.MaxInt, api.ErrBound},
	} {
		if e := g.Take(c.id, c.n); e != c.want {
			t.Error("Take", c, e)
		}
	}
	stands(t, g, 100, 10, in(1, 50, 10), out(2, 50))
	leaves(t, g, 1, 2)
	if e := g.Take(1, 1); e != api.ErrNone {
		t.Error("Take of one that left", e)
	}
	takes(t, g, 2, 50)
	stands(t, g, 100, 60, in(2, 0, 50))
}

// A call's bound is its own: what it did not use the next one has not, though the id is the same.
func TestEnterAgain(t *testing.T) {
	g := make1(t, 100)
	comes(t, g, 1, 60, true)
	takes(t, g, 1, 10)
	leaves(t, g, 1)
	comes(t, g, 1, 5, true)
	stands(t, g, 100, 10, in(1, 5, 0))
	if e := g.Take(1, 6); e != api.ErrBound {
		t.Error("Take", e)
	}
}

// P9.3

func TestGive(t *testing.T) {
	g := make1(t, 100)
	comes(t, g, 1, 100, true)
	takes(t, g, 1, 90)
	comes(t, g, 2, 30, false)
	comes(t, g, 3, 20, false)
	comes(t, g, 4, 41, false)
	comes(t, g, 5, 0, false)
	for _, n := range []int{math.MinInt, -1, 91, math.MaxInt} {
		if l, e := g.Give(n); len(l) != 0 || e != api.ErrArg {
			t.Error("Give", n, l, e)
		}
	}
	gives(t, g, 0)
	gives(t, g, 29)
	stands(t, g, 100, 61, in(1, 10, 90), out(2, 30), out(3, 20), out(4, 41), out(5, 0))
	gives(t, g, 1, 2)
	gives(t, g, 19)
	gives(t, g, 41, 3)
	stands(t, g, 100, 0, in(1, 10, 90), in(2, 30, 0), in(3, 20, 0), out(4, 41), out(5, 0))
	if l, e := g.Give(1); len(l) != 0 || e != api.ErrArg {
		t.Error("Give of more than lives", l, e)
	}
	leaves(t, g, 1, 4, 5)
	stands(t, g, 100, 0, in(2, 30, 0), in(3, 20, 0), in(4, 41, 0), in(5, 0, 0))
}

// One Give lets in several, till the first that does not fit.
func TestGiveLetsInSeveral(t *testing.T) {
	g := make1(t, 100)
	comes(t, g, 1, 100, true)
	takes(t, g, 1, 100)
	for id, bound := range []int{10, 0, 20, 31, 1} {
		comes(t, g, 10+id, bound, false)
	}
	gives(t, g, 60, 10, 11, 12)
	stands(t, g, 100, 40, in(1, 0, 100), in(10, 10, 0), in(11, 0, 0), in(12, 20, 0), out(13, 31), out(14, 1))
	gives(t, g, 40, 13, 14)
}

func TestLeave(t *testing.T) {
	g := make1(t, 100)
	comes(t, g, 1, 60, true)
	comes(t, g, 2, 40, true)
	comes(t, g, 3, 70, false)
	for _, id := range []int{math.MinInt, -1, 0, 4, math.MaxInt} {
		if l, e := g.Leave(id); len(l) != 0 || e != api.ErrNone {
			t.Error("Leave", id, l, e)
		}
	}
	takes(t, g, 1, 10)
	leaves(t, g, 1)
	stands(t, g, 100, 10, in(2, 40, 0), out(3, 70))
	if l, e := g.Leave(1); len(l) != 0 || e != api.ErrNone {
		t.Error("Leave of one that left", l, e)
	}
	takes(t, g, 2, 20)
	leaves(t, g, 2, 3)
	stands(t, g, 100, 30, in(3, 70, 0))
	leaves(t, g, 3)
	stands(t, g, 100, 30)
}

// One that waits may go; nothing of its was reserved. Those behind it are let in then, if they fit.
func TestLeaveOfOneThatWaits(t *testing.T) {
	g := make1(t, 100)
	comes(t, g, 1, 60, true)
	comes(t, g, 2, 50, false)
	comes(t, g, 3, 10, false)
	comes(t, g, 4, 30, false)
	comes(t, g, 5, 31, false)
	comes(t, g, 6, 0, false)
	leaves(t, g, 3)
	stands(t, g, 100, 0, in(1, 60, 0), out(2, 50), out(4, 30), out(5, 31), out(6, 0))
	leaves(t, g, 2, 4)
	stands(t, g, 100, 0, in(1, 60, 0), in(4, 30, 0), out(5, 31), out(6, 0))
	leaves(t, g, 6)
	leaves(t, g, 5)
	stands(t, g, 100, 0, in(1, 60, 0), in(4, 30, 0))
}

func TestStalled(t *testing.T) {
	g := make1(t, 100)
	comes(t, g, 1, 60, true)
	takes(t, g, 1, 60)
	comes(t, g, 2, 50, false)
	if g.Stalled() {
		t.Error("Stalled, though one is inside")
	}
	leaves(t, g, 1)
	if !g.Stalled() {
		t.Error("Stalled")
	}
	comes(t, g, 3, 0, false)
	stands(t, g, 100, 60, out(2, 50), out(3, 0))
	gives(t, g, 9)
	gives(t, g, 1, 2, 3)
	if g.Stalled() {
		t.Error("Stalled, though two were let in")
	}
	stands(t, g, 100, 50, in(2, 50, 0), in(3, 0, 0))
}

// P9.4

func TestVictim(t *testing.T) {
	owner := func(id, bytes int) api.Owner { return api.Owner{Id: id, Bytes: bytes} }
	for _, c := range []struct {
		owners []api.Owner
		spared int
		want   int
		ok     bool
	}{
		{nil, 0, 0, false},
		{[]api.Owner{}, 1, 0, false},
		{[]api.Owner{owner(1, 50)}, 1, 0, false},
		{[]api.Owner{owner(2, 0), owner(3, -1), owner(4, math.MinInt)}, 1, 0, false},
		{[]api.Owner{owner(2, 0), owner(1, 9)}, 1, 0, false},
		{[]api.Owner{owner(2, 1)}, 1, 2, true},
		{[]api.Owner{owner(1, 90), owner(2, 30), owner(3, 40), owner(4, 20)}, 1, 3, true},
		{[]api.Owner{owner(1, 90), owner(2, 30), owner(3, 40), owner(4, 20)}, 5, 1, true},
		{[]api.Owner{owner(2, 30), owner(7, 30), owner(5, 30)}, 1, 7, true},
		{[]api.Owner{owner(7, 30), owner(2, 30), owner(9, 29)}, 1, 7, true},
		{[]api.Owner{owner(9, 29), owner(2, 30), owner(7, 30)}, 7, 2, true},
		{[]api.Owner{owner(-5, 3), owner(-2, 3), owner(-9, 3)}, 0, -2, true},
		{[]api.Owner{owner(math.MinInt, 1)}, 0, math.MinInt, true},
		{[]api.Owner{owner(0, 4), owner(1, math.MaxInt), owner(2, 5)}, 2, 1, true},
		{[]api.Owner{owner(0, 4), owner(-1, 4)}, 2, 0, true},
	} {
		was := slices.Clone(c.owners)
		if id, ok := resv.Victim(c.owners, c.spared); id != c.want || ok != c.ok {
			t.Errorf("Victim(%v, %d): %d %v, not %d", c.owners, c.spared, id, ok, c.want)
		}
		if !slices.Equal(was, c.owners) {
			t.Error("the owners have changed", c.owners)
		}
	}
}

func TestOfNoGate(t *testing.T) {
	for _, g := range []*resv.Gate{nil, {}} {
		for _, n := range []int{-1, 0, 1, math.MaxInt} {
			if in, e := g.Enter(1, n); in || e != api.ErrClosed {
				t.Error("Enter", in, e)
			}
			if e := g.Take(1, n); e != api.ErrClosed {
				t.Error("Take", e)
			}
			if l, e := g.Give(n); len(l) != 0 || e != api.ErrClosed {
				t.Error("Give", l, e)
			}
			if l, e := g.Leave(n); len(l) != 0 || e != api.ErrClosed {
				t.Error("Leave", l, e)
			}
			if g.Inside(n) {
				t.Error("Inside")
			}
		}
		if g.Stalled() || len(g.Seats()) != 0 || g.Heap() != (api.Heap{}) {
			t.Error("Stalled, Seats, Heap")
		}
	}
}

// P9.7

func TestAllAreLetIn(t *testing.T) {
	g := crowd(t, 20)
	takes(t, g, 19, 77)
	for id := range 20 {
		if _, e := g.Leave(id); e != api.OK {
			t.Error("Leave", id, e)
		}
	}
	if _, e := g.Give(77); e != api.OK {
		t.Error("Give", e)
	}
	for id := 20; id < api.MaxInside; id++ {
		if !g.Inside(id) {
			t.Error("it waits still", id)
		}
	}
}

// R3

func TestAnswersAreNewMemory(t *testing.T) {
	g := make1(t, 100)
	comes(t, g, 1, 100, true)
	comes(t, g, 2, 10, false)
	comes(t, g, 3, 10, false)
	l, m := g.Seats(), g.Seats()
	l[0], l[1] = in(8, 0, 0), in(9, 0, 0)
	clear(l[:cap(l)])
	if !slices.Equal(m, []api.Seat{in(1, 100, 0), out(2, 10), out(3, 10)}) {
		t.Error("Seats", m)
	}
	stands(t, g, 100, 0, m...)
	told, _ := g.Leave(1)
	clear(told[:cap(told)])
	stands(t, g, 100, 0, in(2, 10, 0), in(3, 10, 0))
	// A list that was answered stays as it is, whatever comes.
	leaves(t, g, 2)
	comes(t, g, 4, 1, true)
	if !slices.Equal(m, []api.Seat{in(1, 100, 0), out(2, 10), out(3, 10)}) {
		t.Error("Seats", m)
	}
}

func TestExample(t *testing.T) {
	g := make1(t, 100)
	comes(t, g, 1, 60, true)
	comes(t, g, 2, 50, false)
	comes(t, g, 3, 10, false)
	takes(t, g, 1, 40)
	leaves(t, g, 1, 2, 3)
	stands(t, g, 100, 40, in(2, 50, 0), in(3, 10, 0))
}
