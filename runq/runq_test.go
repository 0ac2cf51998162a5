package runq_test

import (
	"math"
	"slices"
	"testing"

	"parapet/api"
	"parapet/runq"
)

func make1(t *testing.T, harts int) *runq.Queues {
	t.Helper()
	q, e := runq.New(harts)
	if e != api.OK || q == nil {
		t.Fatal("New", harts, q, e)
	}
	return q
}

// puts puts threads to a hart, one behind the other.
func puts(t *testing.T, q *runq.Queues, hart int, threads ...int) {
	t.Helper()
	for _, thread := range threads {
		if e := q.Put(hart, thread); e != api.OK {
			t.Fatalf("Put(%d, %d): %v", hart, thread, e)
		}
	}
}

// wakes holds to which hart a thread is put.
func wakes(t *testing.T, q *runq.Queues, thread, want int) {
	t.Helper()
	if hart, e := q.Wake(thread); hart != want || e != api.OK {
		t.Fatalf("Wake(%d): %d %v, not %d", thread, hart, e, want)
	}
	if hart, ok := q.Where(thread); hart != want || !ok {
		t.Fatalf("Where(%d): %d %v, not %d", thread, hart, ok, want)
	}
}

// runs holds which thread a hart runs from its Next on.
func runs(t *testing.T, q *runq.Queues, hart, want int) {
	t.Helper()
	if thread, ok := q.Next(hart); thread != want || !ok {
		t.Fatalf("Next(%d): %d %v, not %d", hart, thread, ok, want)
	}
	if q.Running(hart) != want {
		t.Fatalf("Running(%d): %d, not %d", hart, q.Running(hart), want)
	}
	if at, ok := q.Where(want); at != hart || !ok {
		t.Fatalf("Where(%d): %d %v, not %d", want, at, ok, hart)
	}
}

func runsNone(t *testing.T, q *runq.Queues, harts ...int) {
	t.Helper()
	for _, hart := range harts {
		if thread, ok := q.Next(hart); thread != 0 || ok {
			t.Fatalf("Next(%d): %d %v", hart, thread, ok)
		}
	}
}

func ticks(t *testing.T, q *runq.Queues, hart int, want bool) {
	t.Helper()
	if ok := q.Tick(hart); ok != want {
		t.Fatalf("Tick(%d): %v", hart, ok)
	}
}

func sleeps(t *testing.T, q *runq.Queues, hart, want int) {
	t.Helper()
	if thread, e := q.Sleep(hart); thread != want || e != api.OK {
		t.Fatalf("Sleep(%d): %d %v, not %d", hart, thread, e, want)
	}
	nowhere(t, q, want)
}

func removes(t *testing.T, q *runq.Queues, threads ...int) {
	t.Helper()
	for _, thread := range threads {
		if !q.Remove(thread) {
			t.Fatalf("Remove(%d)", thread)
		}
		nowhere(t, q, thread)
	}
}

func nowhere(t *testing.T, q *runq.Queues, thread int) {
	t.Helper()
	if hart, ok := q.Where(thread); hart != 0 || ok {
		t.Fatalf("Where(%d): %d %v", thread, hart, ok)
	}
}

// at is what a hart runs, and what stands in its queue.
type at struct {
	runs  int
	queue []int
}

func hart(runs int, queue ...int) at {
	return at{runs, queue}
}

// stands holds what all harts run, all queues, and what follows from them.
func stands(t *testing.T, q *runq.Queues, want ...at) {
	t.Helper()
	idle := true
	for i, h := range want {
		if q.Running(i) != h.runs || !slices.Equal(q.Queue(i), h.queue) {
			t.Errorf("hart %d: %d %v, not %v", i, q.Running(i), q.Queue(i), h)
		}
		for _, thread := range append([]int{h.runs}, h.queue...) {
			if thread == 0 {
				continue
			}
			idle = false
			if at, ok := q.Where(thread); at != i || !ok {
				t.Errorf("Where(%d): %d %v, not %d", thread, at, ok, i)
			}
		}
	}
	if q.Idle() != idle {
		t.Error("Idle", q.Idle())
	}
}

var noHarts = []int{math.MinInt, -1, 2, 7, 8, math.MaxInt}

// P11.1

func TestNew(t *testing.T) {
	for _, harts := range []int{math.MinInt, -1, 0, 9, 1 << 32, math.MaxInt} {
		if q, e := runq.New(harts); q != nil || e != api.ErrArg {
			t.Error("New", harts, q, e)
		}
	}
	for harts := 1; harts <= 8; harts++ {
		q := make1(t, harts)
		stands(t, q, make([]at, harts)...)
		puts(t, q, harts-1, 5)
		if e := q.Put(harts, 6); e != api.ErrArg {
			t.Error("Put to a hart behind the last", harts, e)
		}
		runs(t, q, harts-1, 5)
	}
}

func TestPut(t *testing.T) {
	q := make1(t, 2)
	puts(t, q, 0, 4, 1, math.MaxInt)
	puts(t, q, 1, 3)
	stands(t, q, hart(0, 4, 1, math.MaxInt), hart(0, 3))
	runs(t, q, 0, 4)
	puts(t, q, 0, 2)
	stands(t, q, hart(4, 1, math.MaxInt, 2), hart(0, 3))
}

func TestPutRefuses(t *testing.T) {
	q := make1(t, 2)
	puts(t, q, 0, 1, 2)
	runs(t, q, 0, 1)
	for _, h := range noHarts {
		for _, thread := range []int{-1, 0, 1, 2, 3} {
			if e := q.Put(h, thread); e != api.ErrArg {
				t.Error("Put", h, thread, e)
			}
		}
	}
	for _, thread := range []int{math.MinInt, -1, 0} {
		if e := q.Put(0, thread); e != api.ErrArg {
			t.Error("Put", thread, e)
		}
		if h, e := q.Wake(thread); h != 0 || e != api.ErrArg {
			t.Error("Wake", thread, h, e)
		}
	}
	// It runs, or stands in a queue: here, or at another hart.
	for _, h := range []int{0, 1} {
		for _, thread := range []int{1, 2} {
			if e := q.Put(h, thread); e != api.ErrBusy {
				t.Error("Put", h, thread, e)
			}
			if h, e := q.Wake(thread); h != 0 || e != api.ErrBusy {
				t.Error("Wake", thread, h, e)
			}
		}
	}
	stands(t, q, hart(1, 2), hart(0))
}

// As many as may be, of all harts together, and of what they run.
func TestPutOfTheMost(t *testing.T) {
	for _, harts := range []int{1, 2, 8} {
		q := make1(t, harts)
		for thread := 1; thread <= api.MaxQueue; thread++ {
			puts(t, q, thread%harts, thread)
		}
		runs(t, q, 0, harts)
		for _, c := range []struct {
			hart, thread int
			want         api.Errno
		}{{0, 65, api.ErrFull}, {harts - 1, math.MaxInt, api.ErrFull}, {0, 1, api.ErrBusy}, {0, harts, api.ErrBusy}, {0, 0, api.ErrArg}, {harts, 65, api.ErrArg}} {
			if e := q.Put(c.hart, c.thread); e != c.want {
				t.Error("Put", harts, c, e)
			}
		}
		for thread, want := range map[int]api.Errno{65: api.ErrFull, 64: api.ErrBusy, 0: api.ErrArg} {
			if h, e := q.Wake(thread); h != 0 || e != want {
				t.Error("Wake", thread, h, e)
			}
		}
		sleeps(t, q, 0, harts)
		puts(t, q, 0, 65)
		if e := q.Put(0, harts); e != api.ErrFull {
			t.Error("Put, when one was put in another's place", e)
		}
		removes(t, q, 64)
		puts(t, q, 0, harts)
		if q.Idle() || q.Queue(0)[len(q.Queue(0))-1] != harts {
			t.Error("Queue", q.Queue(0))
		}
	}
}

// The first hart with the shortest queue, and what it runs counts as one.
func TestWake(t *testing.T) {
	q := make1(t, 3)
	wakes(t, q, 10, 0)
	wakes(t, q, 11, 1)
	wakes(t, q, 12, 2)
	wakes(t, q, 13, 0)
	stands(t, q, hart(0, 10, 13), hart(0, 11), hart(0, 12))
	runs(t, q, 1, 11)
	wakes(t, q, 14, 1)
	stands(t, q, hart(0, 10, 13), hart(11, 14), hart(0, 12))
	wakes(t, q, 15, 2)
	wakes(t, q, 16, 0)
	stands(t, q, hart(0, 10, 13, 16), hart(11, 14), hart(0, 12, 15))
	sleeps(t, q, 1, 11)
	wakes(t, q, 11, 1)
	stands(t, q, hart(0, 10, 13, 16), hart(0, 14, 11), hart(0, 12, 15))
	removes(t, q, 15)
	wakes(t, q, 17, 2)
	stands(t, q, hart(0, 10, 13, 16), hart(0, 14, 11), hart(0, 12, 17))
}

// A hart that runs something has as much to do as one in whose queue one stands; one that does nothing has less.
func TestWakeCountsWhatRuns(t *testing.T) {
	q := make1(t, 2)
	puts(t, q, 0, 1)
	runs(t, q, 0, 1)
	wakes(t, q, 2, 1)
	wakes(t, q, 3, 0)
	wakes(t, q, 4, 1)
	stands(t, q, hart(1, 3), hart(0, 2, 4))
	runs(t, q, 1, 2)
	stands(t, q, hart(1, 3), hart(2, 4))
	wakes(t, q, 5, 0)
	wakes(t, q, 6, 1)
	stands(t, q, hart(1, 3, 5), hart(2, 4, 6))
}

// P11.2

func TestNext(t *testing.T) {
	q := make1(t, 2)
	runsNone(t, q, 0, 1)
	puts(t, q, 0, 3, 1, 2)
	puts(t, q, 1, 9)
	runsNone(t, q, noHarts...)
	runs(t, q, 0, 3)
	runsNone(t, q, 0)
	stands(t, q, hart(3, 1, 2), hart(0, 9))
	runs(t, q, 1, 9)
	runsNone(t, q, 1)
	sleeps(t, q, 0, 3)
	runs(t, q, 0, 1)
	sleeps(t, q, 0, 1)
	runs(t, q, 0, 2)
	sleeps(t, q, 0, 2)
	// What another hart runs is not stolen.
	runsNone(t, q, 0, 1)
	stands(t, q, hart(0), hart(9))
}

// A hart steals when its own queue is empty: the last one of the longest queue, of the first hart that has one.
func TestNextSteals(t *testing.T) {
	q := make1(t, 4)
	puts(t, q, 1, 1, 2)
	puts(t, q, 2, 3, 4, 5)
	puts(t, q, 3, 6, 7, 8)
	runs(t, q, 0, 5)
	stands(t, q, hart(5), hart(0, 1, 2), hart(0, 3, 4), hart(0, 6, 7, 8))
	sleeps(t, q, 0, 5)
	runs(t, q, 0, 8)
	sleeps(t, q, 0, 8)
	runs(t, q, 0, 2)
	sleeps(t, q, 0, 2)
	runs(t, q, 0, 4)
	sleeps(t, q, 0, 4)
	runs(t, q, 0, 7)
	stands(t, q, hart(7), hart(0, 1), hart(0, 3), hart(0, 6))
	runs(t, q, 3, 6)
	sleeps(t, q, 3, 6)
	runs(t, q, 3, 1)
	runs(t, q, 1, 3)
	runsNone(t, q, 0, 1, 2, 3)
	stands(t, q, hart(7), hart(3), hart(0), hart(1))
}

// What a hart runs does not make its queue longer.
func TestNextStealsByQueuesAlone(t *testing.T) {
	q := make1(t, 3)
	puts(t, q, 2, 1, 2)
	runs(t, q, 2, 1)
	puts(t, q, 1, 3)
	stands(t, q, hart(0), hart(0, 3), hart(1, 2))
	runs(t, q, 0, 3)
	sleeps(t, q, 0, 3)
	runs(t, q, 0, 2)
	stands(t, q, hart(2), hart(0), hart(1))
}

// A hart with work of its own takes that, however long other queues are.
func TestNextTakesItsOwn(t *testing.T) {
	q := make1(t, 2)
	puts(t, q, 0, 1, 2, 3, 4)
	puts(t, q, 1, 5)
	runs(t, q, 1, 5)
	stands(t, q, hart(0, 1, 2, 3, 4), hart(5))
}

func TestRunningOfNoHart(t *testing.T) {
	q := make1(t, 2)
	puts(t, q, 0, 1, 2)
	runs(t, q, 0, 1)
	for _, h := range noHarts {
		if q.Running(h) != 0 || q.Tick(h) || len(q.Queue(h)) != 0 {
			t.Error("Running, Tick, Queue", h)
		}
		if thread, e := q.Sleep(h); thread != 0 || e != api.ErrNone {
			t.Error("Sleep", h, thread, e)
		}
	}
	stands(t, q, hart(1, 2), hart(0))
}

// P11.3

func TestTick(t *testing.T) {
	q := make1(t, 2)
	ticks(t, q, 0, false)
	puts(t, q, 0, 1, 2, 3)
	ticks(t, q, 0, false)
	stands(t, q, hart(0, 1, 2, 3), hart(0))
	runs(t, q, 0, 1)
	ticks(t, q, 1, false)
	ticks(t, q, 0, true)
	stands(t, q, hart(0, 2, 3, 1), hart(0))
	ticks(t, q, 0, false)
	runs(t, q, 0, 2)
	ticks(t, q, 0, true)
	runs(t, q, 0, 3)
	stands(t, q, hart(3, 1, 2), hart(0))
	// Another hart's queue does not let a thread stand behind its own, which is empty.
	runs(t, q, 1, 2)
	ticks(t, q, 1, false)
	stands(t, q, hart(3, 1), hart(2))
	ticks(t, q, 0, true)
	stands(t, q, hart(0, 1, 3), hart(2))
}

func TestSleep(t *testing.T) {
	q := make1(t, 2)
	puts(t, q, 0, 1, 2)
	if thread, e := q.Sleep(0); thread != 0 || e != api.ErrNone {
		t.Error("Sleep of nothing", thread, e)
	}
	runs(t, q, 0, 1)
	if thread, e := q.Sleep(1); thread != 0 || e != api.ErrNone {
		t.Error("Sleep of nothing", thread, e)
	}
	sleeps(t, q, 0, 1)
	stands(t, q, hart(0, 2), hart(0))
	if thread, e := q.Sleep(0); thread != 0 || e != api.ErrNone {
		t.Error("Sleep anew", thread, e)
	}
	puts(t, q, 1, 1)
	stands(t, q, hart(0, 2), hart(0, 1))
}

func TestRemove(t *testing.T) {
	q := make1(t, 2)
	puts(t, q, 0, 1, 2, 3, 4)
	puts(t, q, 1, 5)
	runs(t, q, 0, 1)
	runs(t, q, 1, 5)
	for _, thread := range []int{math.MinInt, -1, 0, 6, math.MaxInt} {
		if q.Remove(thread) {
			t.Error("Remove", thread)
		}
		nowhere(t, q, thread)
	}
	removes(t, q, 3)
	stands(t, q, hart(1, 2, 4), hart(5))
	removes(t, q, 5)
	stands(t, q, hart(1, 2, 4), hart(0))
	removes(t, q, 4, 1)
	stands(t, q, hart(0, 2), hart(0))
	if q.Remove(1) || q.Remove(3) {
		t.Error("Remove anew")
	}
	runs(t, q, 0, 2)
	removes(t, q, 2)
	stands(t, q, hart(0), hart(0))
	runsNone(t, q, 0, 1)
	puts(t, q, 1, 2, 3)
	stands(t, q, hart(0), hart(0, 2, 3))
}

// A thread that was stolen is where it runs, not where it stood.
func TestWhereOfWhatWasStolen(t *testing.T) {
	q := make1(t, 3)
	puts(t, q, 0, 1, 2)
	runs(t, q, 2, 2)
	stands(t, q, hart(0, 1), hart(0), hart(2))
	puts(t, q, 2, 3)
	ticks(t, q, 2, true)
	stands(t, q, hart(0, 1), hart(0), hart(0, 3, 2))
	removes(t, q, 2)
	stands(t, q, hart(0, 1), hart(0), hart(0, 3))
}

func TestIdle(t *testing.T) {
	q := make1(t, 2)
	if !q.Idle() {
		t.Error("Idle of a new one")
	}
	puts(t, q, 1, 1)
	if q.Idle() {
		t.Error("Idle, though one stands in a queue")
	}
	runs(t, q, 0, 1)
	if q.Idle() {
		t.Error("Idle, though one runs")
	}
	sleeps(t, q, 0, 1)
	if !q.Idle() {
		t.Error("Idle, when it sleeps")
	}
}

// P11.4

func TestOfNoQueues(t *testing.T) {
	for _, q := range []*runq.Queues{nil, {}} {
		for _, n := range []int{-1, 0, 1, 2} {
			if e := q.Put(n, n); e != api.ErrClosed {
				t.Error("Put", e)
			}
			if h, e := q.Wake(n); h != 0 || e != api.ErrClosed {
				t.Error("Wake", h, e)
			}
			runsNone(t, q, n)
			nowhere(t, q, n)
			if q.Running(n) != 0 || q.Tick(n) || q.Remove(n) || len(q.Queue(n)) != 0 {
				t.Error("Running, Tick, Remove, Queue", n)
			}
			if thread, e := q.Sleep(n); thread != 0 || e != api.ErrClosed {
				t.Error("Sleep", thread, e)
			}
		}
		if !q.Idle() {
			t.Error("Idle")
		}
	}
}

// R3

func TestAnswersAreNewMemory(t *testing.T) {
	q := make1(t, 2)
	puts(t, q, 0, 1, 2, 3)
	l, m := q.Queue(0), q.Queue(0)
	clear(l[:cap(l)])
	stands(t, q, hart(0, 1, 2, 3), hart(0))
	removes(t, q, 2)
	puts(t, q, 0, 4, 5, 6)
	if !slices.Equal(m, []int{1, 2, 3}) {
		t.Error("Queue", m)
	}
}

func TestQueuesAreApart(t *testing.T) {
	a, b := make1(t, 2), make1(t, 2)
	puts(t, a, 0, 1)
	puts(t, b, 1, 1)
	runs(t, a, 1, 1)
	stands(t, a, hart(0), hart(1))
	stands(t, b, hart(0), hart(0, 1))
}

func TestExample(t *testing.T) {
	q := make1(t, 2)
	puts(t, q, 0, 1, 2, 3)
	runs(t, q, 1, 3)
	runs(t, q, 0, 1)
	ticks(t, q, 0, true)
	stands(t, q, hart(0, 2, 1), hart(3))
}
