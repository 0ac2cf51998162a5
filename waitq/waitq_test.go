package waitq_test

import (
	"math"
	"slices"
	"testing"

	"parapet/api"
	"parapet/waitq"
)

var (
	a = api.Chan{Kind: 1, A: 2, B: 3}
	b = api.Chan{Kind: 1, A: 2, B: 4}
	c = api.Chan{Kind: 1, A: 3, B: 3}
	d = api.Chan{Kind: 2, A: 2, B: 3}
)

// many is so many channels that differ.
func many(n int) []api.Chan {
	l := make([]api.Chan, n)
	for i := range l {
		l[i] = api.Chan{Kind: 9, A: i}
	}
	return l
}

func sleeps(t *testing.T, q *waitq.Queue, tid int, on ...api.Chan) {
	t.Helper()
	if e := q.Sleep(tid, on); e != api.OK {
		t.Fatalf("Sleep(%d, %v): %v", tid, on, e)
	}
	isOn(t, q, tid, on...)
}

func refuses(t *testing.T, q *waitq.Queue, tid int, on []api.Chan, want api.Errno) {
	t.Helper()
	if e := q.Sleep(tid, on); e != want {
		t.Errorf("Sleep(%d, %v): %v, not %v", tid, on, e, want)
	}
}

// isOn holds on what a thread sleeps, in order.
func isOn(t *testing.T, q *waitq.Queue, tid int, want ...api.Chan) {
	t.Helper()
	if on := q.On(tid); !slices.Equal(on, want) {
		t.Errorf("On(%d): %v, not %v", tid, on, want)
	}
}

// wakes holds who is woken, and that they sleep no more.
func wakes(t *testing.T, q *waitq.Queue, on api.Chan, n int, want ...int) {
	t.Helper()
	if l := q.Wake(on, n); !slices.Equal(l, want) {
		t.Fatalf("Wake(%v, %d): %v, not %v", on, n, l, want)
	}
	for _, tid := range want {
		isOn(t, q, tid)
	}
}

func moves(t *testing.T, q *waitq.Queue, from, to api.Chan, n, want int) {
	t.Helper()
	if m := q.Move(from, to, n); m != want {
		t.Fatalf("Move(%v, %v, %d): %d, not %d", from, to, n, m, want)
	}
}

func cancels(t *testing.T, q *waitq.Queue, tids ...int) {
	t.Helper()
	for _, tid := range tids {
		if !q.Cancel(tid) {
			t.Fatalf("Cancel(%d)", tid)
		}
		isOn(t, q, tid)
	}
}

// on holds a channel's sleepers, in order.
func on(t *testing.T, q *waitq.Queue, x api.Chan, want ...int) {
	t.Helper()
	if l := q.Sleepers(x); !slices.Equal(l, want) {
		t.Errorf("Sleepers(%v): %v, not %v", x, l, want)
	}
}

// all holds who sleeps.
func all(t *testing.T, q *waitq.Queue, want ...int) {
	t.Helper()
	if l := q.All(); !slices.Equal(l, want) || q.Len() != len(want) {
		t.Errorf("All, Len: %v %d, not %v", l, q.Len(), want)
	}
}

// P12.1

func TestNew(t *testing.T) {
	q := waitq.New()
	all(t, q)
	on(t, q, a)
	on(t, q, api.Chan{})
	isOn(t, q, 1)
	isOn(t, q, 0)
	wakes(t, q, a, 1)
	moves(t, q, a, b, 1, 0)
	if q.Cancel(1) || q.Cancel(0) {
		t.Error("Cancel")
	}
}

func TestSleep(t *testing.T) {
	q := waitq.New()
	sleeps(t, q, 7, a)
	sleeps(t, q, 2, b, a)
	sleeps(t, q, math.MaxInt, a, c, b)
	sleeps(t, q, 1, c)
	all(t, q, 1, 2, 7, math.MaxInt)
	on(t, q, a, 7, 2, math.MaxInt)
	on(t, q, b, 2, math.MaxInt)
	on(t, q, c, math.MaxInt, 1)
	on(t, q, d)
	isOn(t, q, 3)
}

// Any three numbers are a channel, and each of them makes another one.
func TestChannelsAreAnyNumbers(t *testing.T) {
	q := waitq.New()
	l := []api.Chan{{}, {Kind: 1}, {A: 1}, {B: 1}, {Kind: -1}, {Kind: math.MinInt, A: math.MaxInt, B: math.MinInt}, {Kind: math.MaxInt, A: math.MinInt, B: math.MaxInt}}
	for i, x := range l {
		sleeps(t, q, i+1, x)
	}
	sleeps(t, q, 50, l...)
	for i, x := range l {
		on(t, q, x, i+1, 50)
		wakes(t, q, x, 1, i+1)
	}
	all(t, q, 50)
}

func TestSleepRefuses(t *testing.T) {
	q := waitq.New()
	sleeps(t, q, 1, a)
	for _, tid := range []int{math.MinInt, -1, 0} {
		refuses(t, q, tid, []api.Chan{b}, api.ErrArg)
	}
	twice := append(many(15), api.Chan{Kind: 9})
	for _, tid := range []int{1, 2} {
		refuses(t, q, tid, nil, api.ErrArg)
		refuses(t, q, tid, []api.Chan{}, api.ErrArg)
		refuses(t, q, tid, many(17), api.ErrArg)
		refuses(t, q, tid, many(1000), api.ErrArg)
		refuses(t, q, tid, []api.Chan{b, b}, api.ErrArg)
		refuses(t, q, tid, []api.Chan{b, c, d, c}, api.ErrArg)
		refuses(t, q, tid, twice, api.ErrArg)
		refuses(t, q, tid, []api.Chan{{}, b, {}}, api.ErrArg)
	}
	refuses(t, q, 1, []api.Chan{a}, api.ErrTwice)
	refuses(t, q, 1, []api.Chan{b, c}, api.ErrTwice)
	all(t, q, 1)
	on(t, q, a, 1)
	on(t, q, b)
	on(t, q, many(1)[0])
	sleeps(t, q, 2, many(16)...)
	on(t, q, many(16)[15], 2)
	refuses(t, q, 2, []api.Chan{a}, api.ErrTwice)
	wakes(t, q, many(16)[8], 1, 2)
	on(t, q, many(16)[15])
	sleeps(t, q, 2, a)
	on(t, q, a, 1, 2)
}

func TestSleepOfTheMost(t *testing.T) {
	q := waitq.New()
	var tids []int
	for tid := 101; tid <= 164; tid++ {
		sleeps(t, q, tid, a, api.Chan{B: tid % 3})
		tids = append(tids, tid)
	}
	refuses(t, q, 165, []api.Chan{d}, api.ErrFull)
	refuses(t, q, 1, []api.Chan{a}, api.ErrFull)
	refuses(t, q, 101, []api.Chan{d}, api.ErrTwice)
	refuses(t, q, 165, nil, api.ErrArg)
	refuses(t, q, 0, []api.Chan{d}, api.ErrArg)
	all(t, q, tids...)
	on(t, q, a, tids...)
	on(t, q, d)
	moves(t, q, a, d, 64, 64)
	refuses(t, q, 165, []api.Chan{d}, api.ErrFull)
	cancels(t, q, 120)
	sleeps(t, q, 165, d)
	refuses(t, q, 120, []api.Chan{d}, api.ErrFull)
	wakes(t, q, d, 2, 101, 102)
	sleeps(t, q, 101, d)
	sleeps(t, q, 120, d)
	refuses(t, q, 102, []api.Chan{d}, api.ErrFull)
	if l := q.Wake(d, 100); len(l) != 64 || !slices.Equal(l[61:], []int{165, 101, 120}) {
		t.Error("Wake", l)
	}
	all(t, q)
}

// P12.2

func TestWake(t *testing.T) {
	q := waitq.New()
	for _, tid := range []int{5, 3, 8, 1, 9} {
		sleeps(t, q, tid, a)
	}
	sleeps(t, q, 2, b)
	for _, n := range []int{math.MinInt, -1, 0} {
		wakes(t, q, a, n)
	}
	wakes(t, q, c, 5)
	all(t, q, 1, 2, 3, 5, 8, 9)
	wakes(t, q, a, 1, 5)
	wakes(t, q, a, 2, 3, 8)
	all(t, q, 1, 2, 9)
	on(t, q, a, 1, 9)
	sleeps(t, q, 5, a)
	wakes(t, q, a, math.MaxInt, 1, 9, 5)
	wakes(t, q, a, 1)
	all(t, q, 2)
	on(t, q, b, 2)
}

// Who is woken on one channel sleeps on none.
func TestWakeOfOneOnSeveral(t *testing.T) {
	q := waitq.New()
	sleeps(t, q, 1, a, b, c)
	sleeps(t, q, 2, c, a)
	sleeps(t, q, 3, b, c)
	wakes(t, q, b, 1, 1)
	on(t, q, a, 2)
	on(t, q, b, 3)
	on(t, q, c, 2, 3)
	wakes(t, q, c, 2, 2, 3)
	on(t, q, a)
	on(t, q, b)
	on(t, q, c)
	all(t, q)
	sleeps(t, q, 1, b)
	on(t, q, b, 1)
	on(t, q, a)
}

func TestCancel(t *testing.T) {
	q := waitq.New()
	sleeps(t, q, 1, a, b)
	sleeps(t, q, 2, a)
	sleeps(t, q, 3, b, a)
	for _, tid := range []int{math.MinInt, -1, 0, 4, math.MaxInt} {
		if q.Cancel(tid) {
			t.Error("Cancel", tid)
		}
	}
	cancels(t, q, 2)
	on(t, q, a, 1, 3)
	on(t, q, b, 1, 3)
	if q.Cancel(2) {
		t.Error("Cancel anew")
	}
	cancels(t, q, 1)
	on(t, q, a, 3)
	on(t, q, b, 3)
	all(t, q, 3)
	wakes(t, q, a, 9, 3)
	if q.Cancel(3) {
		t.Error("Cancel of one that was woken")
	}
	sleeps(t, q, 2, a)
	cancels(t, q, 2)
	all(t, q)
}

func TestMove(t *testing.T) {
	q := waitq.New()
	for _, tid := range []int{1, 2, 3, 4} {
		sleeps(t, q, tid, a)
	}
	sleeps(t, q, 9, b)
	for _, n := range []int{math.MinInt, -1, 0} {
		moves(t, q, a, b, n, 0)
	}
	for _, n := range []int{0, 1, 9} {
		moves(t, q, a, a, n, 0)
	}
	moves(t, q, c, b, 5, 0)
	on(t, q, a, 1, 2, 3, 4)
	on(t, q, b, 9)
	moves(t, q, a, b, 2, 2)
	on(t, q, a, 3, 4)
	on(t, q, b, 9, 1, 2)
	isOn(t, q, 1, b)
	isOn(t, q, 3, a)
	moves(t, q, b, a, 1, 1)
	on(t, q, a, 3, 4, 9)
	on(t, q, b, 1, 2)
	moves(t, q, a, b, math.MaxInt, 3)
	on(t, q, a)
	on(t, q, b, 1, 2, 3, 4, 9)
	moves(t, q, a, b, 1, 0)
	all(t, q, 1, 2, 3, 4, 9)
	wakes(t, q, a, 9)
	wakes(t, q, b, 9, 1, 2, 3, 4, 9)
}

// Those that sleep on the other channel already stay, and are not counted; the next ones are moved.
func TestMoveOverThoseThatAreThere(t *testing.T) {
	q := waitq.New()
	sleeps(t, q, 1, a, b)
	sleeps(t, q, 2, a)
	sleeps(t, q, 3, c, a, b)
	sleeps(t, q, 4, d, a, c)
	sleeps(t, q, 5, a)
	moves(t, q, a, b, 2, 2)
	on(t, q, a, 1, 3, 5)
	on(t, q, b, 1, 3, 2, 4)
	on(t, q, c, 3, 4)
	on(t, q, d, 4)
	moves(t, q, a, b, 2, 1)
	on(t, q, a, 1, 3)
	on(t, q, b, 1, 3, 2, 4, 5)
	moves(t, q, a, b, 9, 0)
	isOn(t, q, 1, a, b)
	isOn(t, q, 2, b)
	isOn(t, q, 3, c, a, b)
	isOn(t, q, 4, d, b, c)
	isOn(t, q, 5, b)
	wakes(t, q, a, 9, 1, 3)
	on(t, q, b, 2, 4, 5)
	cancels(t, q, 4)
	on(t, q, d)
	on(t, q, c)
	on(t, q, b, 2, 5)
}

// P12.3: the channel to which a thread was moved stands where the other one stood.
func TestOnKeepsItsOrder(t *testing.T) {
	q := waitq.New()
	sleeps(t, q, 1, a, b, c)
	moves(t, q, b, d, 1, 1)
	isOn(t, q, 1, a, d, c)
	moves(t, q, a, b, 1, 1)
	isOn(t, q, 1, b, d, c)
	moves(t, q, c, a, 1, 1)
	isOn(t, q, 1, b, d, a)
	moves(t, q, a, b, 1, 0)
	isOn(t, q, 1, b, d, a)
	on(t, q, c)
}

func TestFork(t *testing.T) {
	q := waitq.New()
	sleeps(t, q, 4, a, b)
	sleeps(t, q, 2, b, c)
	sleeps(t, q, 3, b)
	f := q.Fork()
	both := func(want ...int) {
		t.Helper()
		for _, x := range []*waitq.Queue{q, f} {
			all(t, x, 2, 3, 4)
			on(t, x, b, want...)
		}
	}
	both(4, 2, 3)
	isOn(t, f, 4, a, b)
	isOn(t, f, 2, b, c)
	// What is done to one of them is not done to the other.
	moves(t, f, b, d, 2, 2)
	both2 := []*waitq.Queue{q, q.Fork()}
	for _, x := range both2 {
		on(t, x, b, 4, 2, 3)
		on(t, x, d)
		isOn(t, x, 4, a, b)
		isOn(t, x, 2, b, c)
	}
	on(t, f, b, 3)
	on(t, f, d, 4, 2)
	isOn(t, f, 4, a, d)
	wakes(t, q, b, 1, 4)
	sleeps(t, q, 8, a)
	all(t, f, 2, 3, 4)
	on(t, f, a, 4)
	cancels(t, f, 3)
	on(t, q, b, 2, 3)
	sleeps(t, f, 9, b, c)
	on(t, f, c, 2, 9)
	on(t, q, c, 2)
	all(t, q, 2, 3, 8)
	all(t, f, 2, 4, 9)
	empty := waitq.New().Fork()
	all(t, empty)
	sleeps(t, empty, 1, a)
}

func TestOfNoQueue(t *testing.T) {
	for _, q := range []*waitq.Queue{nil, {}} {
		for _, tid := range []int{-1, 0, 1} {
			refuses(t, q, tid, []api.Chan{a}, api.ErrClosed)
			refuses(t, q, tid, nil, api.ErrClosed)
			isOn(t, q, tid)
			if q.Cancel(tid) {
				t.Error("Cancel")
			}
			wakes(t, q, a, tid)
			moves(t, q, a, b, tid, 0)
		}
		on(t, q, a)
		all(t, q)
		if q.Fork() != nil {
			t.Error("Fork")
		}
	}
}

// R3

func TestArgumentsAreNotKept(t *testing.T) {
	q := waitq.New()
	l := append(make([]api.Chan, 0, 5), a, b)
	if e := q.Sleep(1, l); e != api.OK {
		t.Fatal("Sleep", e)
	}
	moves(t, q, a, c, 1, 1)
	if !slices.Equal(l, []api.Chan{a, b}) || l[:3][2] != (api.Chan{}) {
		t.Error("the channels have changed", l)
	}
	clear(l[:cap(l)])
	isOn(t, q, 1, c, b)
	on(t, q, b, 1)
}

func TestAnswersAreNewMemory(t *testing.T) {
	q := waitq.New()
	for tid := 1; tid <= 5; tid++ {
		sleeps(t, q, tid, a, b)
	}
	onA, sleepers, everybody := q.On(1), q.Sleepers(a), q.All()
	on1, sleepers1, everybody1 := q.On(1), q.Sleepers(a), q.All()
	clear(onA[:cap(onA)])
	clear(sleepers[:cap(sleepers)])
	clear(everybody[:cap(everybody)])
	isOn(t, q, 1, a, b)
	on(t, q, a, 1, 2, 3, 4, 5)
	all(t, q, 1, 2, 3, 4, 5)
	woken := q.Wake(a, 2)
	clear(woken[:cap(woken)])
	on(t, q, a, 3, 4, 5)
	on(t, q, b, 3, 4, 5)
	moves(t, q, a, c, 9, 3)
	if !slices.Equal(on1, []api.Chan{a, b}) || !slices.Equal(sleepers1, []int{1, 2, 3, 4, 5}) || !slices.Equal(everybody1, sleepers1) {
		t.Error("an answer has changed", on1, sleepers1, everybody1)
	}
}

func TestExample(t *testing.T) {
	q := waitq.New()
	sleeps(t, q, 1, a)
	sleeps(t, q, 2, a, b)
	sleeps(t, q, 3, a)
	wakes(t, q, b, 5, 2)
	wakes(t, q, a, 1, 1)
	moves(t, q, a, b, 9, 1)
	wakes(t, q, b, 1, 3)
}
