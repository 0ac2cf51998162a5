package waitq_test

import (
	"slices"
	"testing"

	"parapet/api"
	"parapet/waitq"
)

// stay is a thread at a channel, and which of those that it named this one was.
type stay struct {
	tid, named int
	on         api.Chan
}

// model is one list of all stays, in the order in which they began.
type model []stay

func (m model) sleepers(c api.Chan) []int {
	var l []int
	for _, s := range m {
		if s.on == c {
			l = append(l, s.tid)
		}
	}
	return l
}

func (m model) on(tid int) []api.Chan {
	var l []stay
	for _, s := range m {
		if s.tid == tid {
			l = append(l, s)
		}
	}
	slices.SortFunc(l, func(a, b stay) int { return a.named - b.named })
	var chans []api.Chan
	for _, s := range l {
		chans = append(chans, s.on)
	}
	return chans
}

func (m model) all() []int {
	var l []int
	for _, s := range m {
		l = append(l, s.tid)
	}
	slices.Sort(l)
	return slices.Compact(l)
}

func (m *model) sleep(tid int, on []api.Chan) api.Errno {
	differ := map[api.Chan]int{}
	for _, c := range on {
		differ[c]++
	}
	switch {
	case tid < 1 || len(on) < 1 || len(on) > 16 || len(differ) < len(on):
		return api.ErrArg
	case len(m.on(tid)) > 0:
		return api.ErrTwice
	case len(m.all()) >= 64:
		return api.ErrFull
	}
	for i, c := range on {
		*m = append(*m, stay{tid, i, c})
	}
	return api.OK
}

func (m *model) cancel(tid int) bool {
	n := len(*m)
	*m = slices.DeleteFunc(*m, func(s stay) bool { return s.tid == tid })
	return len(*m) < n
}

func (m *model) wake(c api.Chan, n int) []int {
	var l []int
	for _, tid := range m.sleepers(c) {
		if len(l) < n {
			l = append(l, tid)
			m.cancel(tid)
		}
	}
	return l
}

func (m *model) move(from, to api.Chan, n int) int {
	var stays, moved model
	for _, s := range *m {
		if s.on == from && len(moved) < n && !slices.Contains(m.on(s.tid), to) {
			moved = append(moved, stay{s.tid, s.named, to})
		} else {
			stays = append(stays, s)
		}
	}
	*m = append(stays, moved...)
	return len(moved)
}

// dice are numbers that are the same in each run.
type dice uint64

func (d *dice) below(n int) int {
	*d = *d*6364136223846793005 + 1442695040888963407
	return int(uint64(*d)>>33) % n
}

func (d *dice) channel(n int) api.Chan {
	return api.Chan{Kind: d.below(2), A: d.below(n) - 1, B: d.below(2)}
}

func (d *dice) channels(n int) []api.Chan {
	l := make([]api.Chan, d.below(4)+d.below(2)*d.below(2)*d.below(16))
	for i := range l {
		l[i] = d.channel(n)
	}
	return l
}

// play is a Queue and its model: of how many threads, and so many numbers of channels.
type play struct {
	*testing.T
	r       *dice
	q       *waitq.Queue
	m       *model
	threads int
	numbers int
}

func (p play) step() {
	p.Helper()
	tid, n := p.r.below(p.threads+1), p.r.below(5)-1
	if p.r.below(9) == 0 {
		n = 99
	}
	c, d := p.r.channel(p.numbers), p.r.channel(p.numbers)
	switch p.r.below(9) {
	case 0, 1, 2, 3, 4:
		on := p.r.channels(p.numbers)
		if e, f := p.q.Sleep(tid, on), p.m.sleep(tid, on); e != f {
			p.Fatal("Sleep", tid, on, e, f)
		}
	case 5:
		if a, b := p.q.Wake(c, n), p.m.wake(c, n); !slices.Equal(a, b) {
			p.Fatal("Wake", c, n, a, b)
		}
	case 6:
		if a, b := p.q.Cancel(tid), p.m.cancel(tid); a != b {
			p.Fatal("Cancel", tid, a, b)
		}
	default:
		if a, b := p.q.Move(c, d, n), p.m.move(c, d, n); a != b {
			p.Fatal("Move", c, d, n, a, b)
		}
	}
}

func (p play) hold() {
	p.Helper()
	for tid := range p.threads + 1 {
		if a, b := p.q.On(tid), p.m.on(tid); !slices.Equal(a, b) {
			p.Fatal("On", tid, a, b)
		}
	}
	for i := range 4 * p.numbers {
		c := api.Chan{Kind: i & 1, A: i>>2 - 1, B: i >> 1 & 1}
		if a, b := p.q.Sleepers(c), p.m.sleepers(c); !slices.Equal(a, b) {
			p.Fatal("Sleepers", c, a, b)
		}
	}
	if a, b := p.q.All(), p.m.all(); !slices.Equal(a, b) || p.q.Len() != len(b) {
		p.Fatal("All, Len", a, b, p.q.Len())
	}
}

// plays is queues with few and many threads and channels, for a play each.
func plays(t *testing.T, seed dice, act func(p play)) {
	t.Helper()
	for _, threads := range []int{2, 8, 30, 100} {
		for _, numbers := range []int{1, 2, 6} {
			act(play{t, &seed, waitq.New(), &model{}, threads, numbers})
		}
	}
}

// P12.1 to P12.3: whoever sleeps, is woken, called off, moved in whatever order, all stands as the chapter tells.
func TestAgainstModel(t *testing.T) {
	plays(t, 12, func(p play) {
		for range 1500 {
			p.step()
			p.hold()
		}
	})
}

// P12.3: now and then one goes on with a fork, and the one that is left stays as it was.
func TestForksAgainstModel(t *testing.T) {
	plays(t, 13, func(p play) {
		for range 40 {
			for range 15 {
				p.step()
			}
			left := p
			kept := slices.Clone(*p.m)
			left.m = &kept
			p.q = p.q.Fork()
			for range 15 {
				p.step()
			}
			p.hold()
			left.hold()
		}
	})
}

// P12.4, P12.6: each that came to sleep is told just once, or sleeps on; and a Wake tells as many as it is asked for, or as there are.
func TestNobodyIsLost(t *testing.T) {
	plays(t, 14, func(p play) {
		asleep := map[int]int{}
		for range 1500 {
			tid, c, n := 1+p.r.below(p.threads), p.r.channel(p.numbers), p.r.below(4)
			switch p.r.below(6) {
			case 0, 1, 2:
				if p.q.Sleep(tid, p.r.channels(p.numbers)) == api.OK {
					asleep[tid]++
				}
			case 3:
				if p.q.Cancel(tid) {
					asleep[tid]--
				}
			case 4:
				p.q.Move(c, p.r.channel(p.numbers), n)
			default:
				there := len(p.q.Sleepers(c))
				l := p.q.Wake(c, n)
				if len(l) != min(n, there) {
					t.Fatal("Wake", c, n, "told", l, "of", there)
				}
				for _, woken := range l {
					asleep[woken]--
				}
			}
			for tid := range p.threads + 1 {
				sleeps := 0
				if len(p.q.On(tid)) > 0 {
					sleeps = 1
				}
				if asleep[tid] != sleeps {
					t.Fatal("thread", tid, asleep[tid], sleeps)
				}
			}
		}
	})
}

// P12.5: those that sleep on one channel alone are woken in the order in which they came, by however many Wakes; and those that are moved together stay in order.
func TestFirstCome(t *testing.T) {
	r := dice(15)
	for range 300 {
		q := waitq.New()
		var came []int
		for range 1 + r.below(40) {
			tid := 1 + r.below(500)
			if q.Sleep(tid, []api.Chan{a}) == api.OK {
				came = append(came, tid)
			}
		}
		first := q.Wake(a, r.below(4))
		moved := q.Move(a, b, r.below(20))
		var behind []int
		for len(q.Sleepers(b)) > 0 {
			behind = append(behind, q.Wake(b, 1+r.below(3))...)
		}
		if len(behind) != moved {
			t.Fatal("moved", moved, "woken", behind)
		}
		rest := q.Wake(a, 64)
		if !slices.Equal(slices.Concat(first, behind, rest), came) {
			t.Fatal("came", came, "woken", first, behind, rest)
		}
	}
}
