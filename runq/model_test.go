package runq_test

import (
	"slices"
	"testing"

	"parapet/api"
	"parapet/runq"
)

// placed is a thread that runs, or stands in a queue.
type placed struct {
	thread, hart int
	runs         bool
}

// model is one list of all threads, as they came to where they are: a queue is those of it that a hart has.
type model struct {
	harts int
	list  []placed
}

func (m *model) queue(hart int) []int {
	var l []int
	for _, p := range m.list {
		if p.hart == hart && !p.runs {
			l = append(l, p.thread)
		}
	}
	return l
}

// where is a thread's place in the list, below 0 if it is in none.
func (m *model) where(thread int) int {
	return slices.IndexFunc(m.list, func(p placed) bool { return p.thread == thread })
}

func (m *model) running(hart int) int {
	for _, p := range m.list {
		if p.hart == hart && p.runs {
			return p.thread
		}
	}
	return 0
}

func (m *model) put(hart, thread int) api.Errno {
	if hart < 0 || hart >= m.harts || thread < 1 {
		return api.ErrArg
	}
	if m.where(thread) >= 0 {
		return api.ErrBusy
	}
	if len(m.list) >= 64 {
		return api.ErrFull
	}
	m.list = append(m.list, placed{thread, hart, false})
	return api.OK
}

func (m *model) wake(thread int) (int, api.Errno) {
	loads := make([]int, m.harts)
	for _, p := range m.list {
		loads[p.hart]++
	}
	hart := slices.Index(loads, slices.Min(loads))
	if e := m.put(hart, thread); e != api.OK {
		return 0, e
	}
	return hart, api.OK
}

func (m *model) next(hart int) (int, bool) {
	if hart < 0 || hart >= m.harts || m.running(hart) > 0 {
		return 0, false
	}
	thread := 0
	if l := m.queue(hart); len(l) > 0 {
		thread = l[0]
	} else {
		var longest []int
		for other := range m.harts {
			if l := m.queue(other); len(l) > len(longest) {
				longest = l
			}
		}
		if len(longest) == 0 {
			return 0, false
		}
		thread = longest[len(longest)-1]
	}
	m.list[m.where(thread)] = placed{thread, hart, true}
	return thread, true
}

func (m *model) tick(hart int) bool {
	thread := m.running(hart)
	if thread == 0 || len(m.queue(hart)) == 0 {
		return false
	}
	m.remove(thread)
	m.list = append(m.list, placed{thread, hart, false})
	return true
}

func (m *model) sleep(hart int) (int, api.Errno) {
	thread := m.running(hart)
	if thread == 0 {
		return 0, api.ErrNone
	}
	m.remove(thread)
	return thread, api.OK
}

func (m *model) remove(thread int) bool {
	i := m.where(thread)
	if i >= 0 {
		m.list = slices.Delete(m.list, i, i+1)
	}
	return i >= 0
}

// dice are numbers that are the same in each run.
type dice uint64

func (d *dice) below(n int) int {
	*d = *d*6364136223846793005 + 1442695040888963407
	return int(uint64(*d)>>33) % n
}

func step(t *testing.T, r *dice, q *runq.Queues, m *model, threads int) {
	t.Helper()
	hart, thread := r.below(m.harts+2)-1, r.below(threads+1)
	switch r.below(8) {
	case 0, 1:
		if e, f := q.Put(hart, thread), m.put(hart, thread); e != f {
			t.Fatal("Put", hart, thread, e, f)
		}
	case 2:
		a, e := q.Wake(thread)
		if b, f := m.wake(thread); a != b || e != f {
			t.Fatal("Wake", thread, a, e, b, f)
		}
	case 3, 4:
		a, ok := q.Next(hart)
		if b, also := m.next(hart); a != b || ok != also {
			t.Fatal("Next", hart, a, ok, b, also)
		}
	case 5:
		if a, b := q.Tick(hart), m.tick(hart); a != b {
			t.Fatal("Tick", hart, a, b)
		}
	case 6:
		a, e := q.Sleep(hart)
		if b, f := m.sleep(hart); a != b || e != f {
			t.Fatal("Sleep", hart, a, e, b, f)
		}
	default:
		if a, b := q.Remove(thread), m.remove(thread); a != b {
			t.Fatal("Remove", thread, a, b)
		}
	}
}

func hold(t *testing.T, q *runq.Queues, m *model, threads int) {
	t.Helper()
	for hart := -1; hart <= m.harts; hart++ {
		if q.Running(hart) != m.running(hart) || !slices.Equal(q.Queue(hart), m.queue(hart)) {
			t.Fatal("hart", hart, q.Running(hart), q.Queue(hart), m.running(hart), m.queue(hart))
		}
	}
	for thread := range threads + 1 {
		hart, ok := q.Where(thread)
		if i := m.where(thread); ok != (i >= 0) || ok && hart != m.list[i].hart || !ok && hart != 0 {
			t.Fatal("Where", thread, hart, ok)
		}
	}
	if q.Idle() != (len(m.list) == 0) {
		t.Fatal("Idle", q.Idle())
	}
}

// kinds is queues of few and many harts, with few and many threads, for a play each.
func kinds(t *testing.T, seed dice, play func(r *dice, q *runq.Queues, m *model, threads int)) {
	t.Helper()
	for _, harts := range []int{1, 2, 3, 8} {
		for _, threads := range []int{2, 7, 30, 90} {
			play(&seed, make1(t, harts), &model{harts: harts}, threads)
		}
	}
}

// P11.1 to P11.3: whoever is put, woken, run, put behind, removed in whatever order, all stands as the chapter tells.
func TestAgainstModel(t *testing.T) {
	kinds(t, 11, func(r *dice, q *runq.Queues, m *model, threads int) {
		for range 2000 {
			step(t, r, q, m, threads)
			hold(t, q, m, threads)
		}
	})
}

// P11.1: many come, and few go, so that there is no room.
func TestAgainstModelWhenFull(t *testing.T) {
	kinds(t, 12, func(r *dice, q *runq.Queues, m *model, threads int) {
		for range 600 {
			thread := 1 + r.below(threads)
			a, e := q.Wake(thread)
			if b, f := m.wake(thread); a != b || e != f {
				t.Fatal("Wake", thread, a, e, b, f)
			}
			if r.below(4) == 0 {
				step(t, r, q, m, threads)
			}
			hold(t, q, m, threads)
		}
	})
}

// P11.5: each thread that was put, and did not sleep, is in just one place.
func TestOnce(t *testing.T) {
	kinds(t, 13, func(r *dice, q *runq.Queues, m *model, threads int) {
		for range 2000 {
			step(t, r, q, m, threads)
			seen := map[int]int{}
			for hart := range m.harts {
				if n := q.Running(hart); n > 0 {
					seen[n]++
				}
				for _, n := range q.Queue(hart) {
					seen[n]++
				}
			}
			for thread, n := range seen {
				if n != 1 {
					t.Fatal("thread", thread, "is in", n, "places")
				}
			}
			if len(seen) != len(m.list) {
				t.Fatal(len(seen), "threads, not", len(m.list))
			}
		}
	})
}

// P11.6: one at place k of a hart's queue is run at that hart's (k+1)-th Next at the latest, whoever else comes, ticks and steals.
func TestItsTurn(t *testing.T) {
	r := dice(14)
	for range 400 {
		harts := 1 + r.below(4)
		q, m := make1(t, harts), &model{harts: harts}
		for range 60 {
			step(t, &r, q, m, 20)
		}
		hart := r.below(harts)
		l := q.Queue(hart)
		if len(l) == 0 {
			continue
		}
		place := r.below(len(l))
		thread := l[place]
		met := false
		for n := 0; n <= place && !met; n++ {
			if !q.Tick(hart) {
				q.Sleep(hart)
			}
			q.Wake(100 + n)
			if other := r.below(harts); other != hart {
				stolen, _ := q.Next(other)
				met = stolen == thread
			}
			next, _ := q.Next(hart)
			met = met || next == thread
		}
		if !met {
			t.Fatal("thread", thread, "stood at place", place, "and was not run")
		}
	}
}

// P11.7: a hart that does nothing gets something, just if anything stands in any queue.
func TestWorkIsFound(t *testing.T) {
	kinds(t, 15, func(r *dice, q *runq.Queues, m *model, threads int) {
		for range 1000 {
			step(t, r, q, m, threads)
			hart := r.below(m.harts)
			q.Sleep(hart)
			m.sleep(hart)
			stand := false
			for other := range m.harts {
				stand = stand || len(q.Queue(other)) > 0
			}
			thread, ok := q.Next(hart)
			if ok != stand {
				t.Fatal("Next", hart, thread, ok, stand)
			}
			m.next(hart)
		}
	})
}
