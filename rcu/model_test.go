package rcu_test

import (
	"cmp"
	"slices"
	"testing"

	"parapet/api"
	"parapet/rcu"
)

// waiter is something that is deferred, and the epoch in which it was.
type waiter struct{ id, epoch int }

// item is a node of the model. Its number is where it stands in the list of all, from 1 on.
type item struct {
	key    api.Name
	value  int
	there  bool
	behind int // of one that was taken out
	freed  bool
}

// model is a domain and a table of it as the chapter tells them: all nodes that ever were, and a chain is whatever nodes of a bucket are there.
type model struct {
	sections []int
	passed   []int // the last epoch that each hart passed
	epoch    int
	waits    []waiter
	buckets  int
	items    []item
}

func makeModel(harts, buckets int) *model {
	return &model{sections: make([]int, harts), passed: make([]int, harts), buckets: buckets}
}

func (m *model) bucket(k api.Name) int {
	sum := max(0, k.Dir)
	for i, b := range []byte(k.Name) {
		sum += (i + 1) * int(b)
	}
	return sum % m.buckets
}

// below is the newest node of a bucket that is there, of those with a lesser number.
func (m *model) below(number, bucket int) int {
	for n := number - 1; n > 0; n-- {
		if m.items[n-1].there && m.bucket(m.items[n-1].key) == bucket {
			return n
		}
	}
	return 0
}

func (m *model) first(k api.Name) int {
	return m.below(len(m.items)+1, m.bucket(k))
}

// known tells whether something is known of a node.
func (m *model) known(n int) bool {
	return n > 0 && n <= len(m.items) && !m.items[n-1].freed
}

func (m *model) next(n int) (int, api.Errno) {
	if !m.known(n) {
		return 0, api.ErrGone
	}
	if x := m.items[n-1]; !x.there {
		return x.behind, api.OK
	}
	return m.below(n, m.bucket(m.items[n-1].key)), api.OK
}

// find is a key's node, 0 if it is not there.
func (m *model) find(k api.Name) int {
	return 1 + slices.IndexFunc(m.items, func(x item) bool { return x.there && x.key == k })
}

func (m *model) put(k api.Name, value int) (int, api.Errno) {
	if m.find(k) > 0 {
		return 0, api.ErrTwice
	}
	m.items = append(m.items, item{key: k, value: value, there: true})
	return len(m.items), api.OK
}

func (m *model) del(k api.Name) (int, api.Errno) {
	n := m.find(k)
	if n == 0 {
		return 0, api.ErrNone
	}
	behind, _ := m.next(n)
	m.items[n-1].there, m.items[n-1].behind = false, behind
	m.later(n)
	return n, api.OK
}

func (m *model) later(id int) api.Errno {
	if slices.Contains(m.waiting(), id) {
		return api.ErrTwice
	}
	m.waits = append(m.waits, waiter{id, m.epoch})
	return api.OK
}

func (m *model) waiting() []int {
	var l []int
	for _, w := range m.waits {
		l = append(l, w.id)
	}
	return l
}

func (m *model) ready() []int {
	var l []int
	m.waits = slices.DeleteFunc(m.waits, func(w waiter) bool {
		if m.epoch < w.epoch+2 {
			return false
		}
		l = append(l, w.id)
		return true
	})
	return l
}

func (m *model) reclaim() []int {
	var l []int
	for _, id := range m.ready() {
		if m.known(id) && !m.items[id-1].there {
			m.items[id-1].freed = true
			l = append(l, id)
		}
	}
	return l
}

func (m *model) pass(hart int) bool {
	if m.sections[hart] == 0 {
		m.passed[hart] = m.epoch
	}
	return m.sections[hart] == 0
}

func (m *model) enter(hart int) api.Errno {
	if m.sections[hart] == 16 {
		return api.ErrFull
	}
	m.sections[hart]++
	return api.OK
}

func (m *model) leave(hart int) api.Errno {
	if m.sections[hart] == 0 {
		return api.ErrNone
	}
	m.sections[hart]--
	m.pass(hart)
	return api.OK
}

func (m *model) step() bool {
	if slices.Min(m.passed) < m.epoch {
		return false
	}
	m.epoch++
	return true
}

func (m *model) all() []api.Name {
	var l []api.Name
	for _, x := range m.items {
		if x.there {
			l = append(l, x.key)
		}
	}
	slices.SortFunc(l, func(a, b api.Name) int {
		if a.Dir != b.Dir {
			return cmp.Compare(a.Dir, b.Dir)
		}
		return cmp.Compare(a.Name, b.Name)
	})
	return l
}

// dice are numbers that are the same in each run.
type dice uint64

func (d *dice) below(n int) int {
	*d = *d*6364136223846793005 + 1442695040888963407
	return int(uint64(*d)>>33) % n
}

func (d *dice) key() api.Name {
	return key(d.below(7)-1, []string{"", "a", "b", "ab", "\xff\x00"}[d.below(5)])
}

// play is a domain, a table, and the model of both.
type play struct {
	*testing.T
	r *dice
	d *rcu.Domain
	x *rcu.Table
	m *model
}

func makePlay(t *testing.T, r *dice, harts, buckets int) play {
	t.Helper()
	d := make1(t, harts)
	x, e := rcu.NewTable(d, buckets)
	if e != api.OK {
		t.Fatal("NewTable", e)
	}
	return play{t, r, d, x, makeModel(harts, buckets)}
}

// change puts a key in, or takes one out.
func (p play) change() {
	p.Helper()
	k := p.r.key()
	if p.r.below(2) == 0 {
		v := p.r.below(1000)
		n, e := p.x.Put(k, v)
		if w, f := p.m.put(k, v); n != w || e != f {
			p.Fatal("Put", k, n, e, w, f)
		}
		return
	}
	n, e := p.x.Del(k)
	if w, f := p.m.del(k); n != w || e != f {
		p.Fatal("Del", k, n, e, w, f)
	}
}

func (p play) section() {
	p.Helper()
	hart := p.r.below(len(p.m.sections))
	switch p.r.below(4) {
	case 0:
		if e, f := p.d.Enter(hart), p.m.enter(hart); e != f {
			p.Fatal("Enter", hart, e, f)
		}
	case 1, 2:
		if e, f := p.d.Leave(hart), p.m.leave(hart); e != f {
			p.Fatal("Leave", hart, e, f)
		}
	default:
		if a, b := p.d.Pass(hart), p.m.pass(hart); a != b {
			p.Fatal("Pass", hart, a, b)
		}
	}
}

// other is what somebody else does with the domain.
func (p play) other() {
	p.Helper()
	if p.r.below(4) > 0 {
		id := p.r.below(len(p.m.items)+4) - 1
		if e, f := p.d.Defer(id), p.m.later(id); e != f {
			p.Fatal("Defer", id, e, f)
		}
		return
	}
	if a, b := p.d.Ready(), p.m.ready(); !slices.Equal(a, b) {
		p.Fatal("Ready", a, b)
	}
}

// goOn lets the epoch go on, if it may, or frees what may be.
func (p play) goOn() {
	p.Helper()
	if p.r.below(2) == 0 {
		if a, b := p.d.Step(), p.m.step(); a != b {
			p.Fatal("Step", a, b)
		}
		return
	}
	if a, b := p.x.Reclaim(), p.m.reclaim(); !slices.Equal(a, b) {
		p.Fatal("Reclaim", a, b)
	}
}

func (p play) hold() {
	p.Helper()
	for hart, n := range p.m.sections {
		if p.d.Inside(hart) != n {
			p.Fatal("Inside", hart, p.d.Inside(hart), n)
		}
	}
	if p.d.Epoch() != p.m.epoch || !slices.Equal(p.d.Waiting(), p.m.waiting()) {
		p.Fatal("Epoch, Waiting", p.d.Epoch(), p.m.epoch, p.d.Waiting(), p.m.waiting())
	}
	for bucket := range p.m.buckets {
		if a, b := p.x.First(key(bucket, "")), p.m.first(key(bucket, "")); a != b {
			p.Fatal("First", bucket, a, b)
		}
	}
	for n := -1; n < len(p.m.items)+3; n++ {
		next, e := p.x.Next(n)
		if want, f := p.m.next(n); next != want || e != f {
			p.Fatal("Next", n, next, e, want, f)
		}
		k, v, e := p.x.At(n)
		if !p.m.known(n) && (k != api.Name{} || v != 0 || e != api.ErrGone) {
			p.Fatal("At", n, k, v, e)
		}
		if p.m.known(n) && (k != p.m.items[n-1].key || v != p.m.items[n-1].value || e != api.OK) {
			p.Fatal("At", n, k, v, e)
		}
	}
	all := p.x.All()
	if !slices.Equal(all, p.m.all()) || p.x.Len() != len(all) {
		p.Fatal("All", all, p.m.all())
	}
	for _, k := range all {
		if v, ok := p.x.Get(k); !ok || v != p.m.items[p.m.find(k)-1].value {
			p.Fatal("Get", k, v, ok)
		}
	}
}

// P10.1 to P10.4: whatever is entered, left, passed, put, deleted, deferred, stepped, reclaimed in whatever order, the table is as the chapter tells.
func TestAgainstModel(t *testing.T) {
	r := dice(10)
	for _, harts := range []int{1, 2, 5, 8} {
		for _, buckets := range []int{1, 2, 7, 64} {
			p := makePlay(t, &r, harts, buckets)
			for range 700 {
				switch r.below(9) {
				case 0, 1, 2:
					p.change()
				case 3, 4, 5:
					p.section()
				case 6, 7:
					p.goOn()
				default:
					p.other()
				}
				p.hold()
			}
		}
	}
}

// walk is a hart's way along a chain.
type walk struct {
	at      int
	staying []api.Name // what was in the bucket from the First on, and was not taken out
	met     []api.Name
}

// begin enters a section, and stands at the first node of a bucket.
func (p play) begin(hart int) *walk {
	p.Helper()
	enters(p.T, p.d, hart)
	k := p.r.key()
	w := &walk{at: p.x.First(k)}
	for _, other := range p.x.All() {
		if p.m.bucket(other) == p.m.bucket(k) {
			w.staying = append(w.staying, other)
		}
	}
	return w
}

// on takes a step of a walk, and tells whether it goes on.
func (p play) on(hart int, w *walk) bool {
	p.Helper()
	if w.at == 0 {
		for _, k := range w.staying {
			if !slices.Contains(w.met, k) {
				p.Fatal("it stayed, and was not met:", k)
			}
		}
		leaves(p.T, p.d, hart)
		return false
	}
	k, _, e := p.x.At(w.at)
	next, f := p.x.Next(w.at)
	if e != api.OK || f != api.OK {
		p.Fatal("a reader met a node that is gone", w.at, e, f)
	}
	w.met = append(w.met, k)
	w.at = next
	return true
}

// P10.6, P10.7: readers that walk while others put, take out, step and reclaim meet all that stays, and nothing that is gone.
func TestReaders(t *testing.T) {
	r := dice(6)
	for _, harts := range []int{1, 2, 3, 8} {
		for _, buckets := range []int{1, 2, 5} {
			p := makePlay(t, &r, harts, buckets)
			walks := make([]*walk, harts)
			freed := 0
			for range 6000 {
				hart := r.below(harts)
				switch c := r.below(8); {
				case c < 4 && walks[hart] == nil:
					walks[hart] = p.begin(hart)
				case c < 4:
					if !p.on(hart, walks[hart]) {
						walks[hart] = nil
					}
				case c == 4:
					p.d.Pass(hart)
				case c == 5:
					p.d.Step()
					freed += len(p.x.Reclaim())
				case c == 6:
					p.x.Put(r.key(), 1)
				default:
					k := r.key()
					p.x.Del(k)
					for _, w := range walks {
						if w != nil {
							w.staying = slices.DeleteFunc(w.staying, func(other api.Name) bool { return other == k })
						}
					}
				}
			}
			if freed < 50 {
				t.Error("little was freed", harts, buckets, freed)
			}
		}
	}
}
