package proc_test

import (
	"slices"
	"testing"

	"parapet/api"
	"parapet/proc"
)

// dice are numbers that are the same in each run.
type dice uint64

func (d *dice) below(n int) int {
	*d = *d*6364136223846793005 + 1442695040888963407
	return int(uint64(*d)>>33) % n
}

// person is a process of the model: who its parent and its children are is told by pointers, in the order of their pids.
type person struct {
	pid      int
	parent   *person
	children []*person
	threads  []api.Strand
	zombie   bool
	code     int
	told     int // how often a Wait has told it
}

// model is a forest. root stands above those who have no parent.
type model struct {
	root *person
	init *person // nil, when the process 1 has ended
	tids int
	all  []*person // by their pids, those who are gone, too
}

func newModel() *model {
	m := &model{root: &person{}}
	m.init = m.birth(m.root)
	return m
}

// birth is a new process with one thread.
func (m *model) birth(parent *person) *person {
	p := &person{pid: len(m.all) + 1}
	m.all = append(m.all, p)
	m.thread(p)
	parent.adopt(p)
	return p
}

func (m *model) thread(p *person) int {
	m.tids++
	p.threads = append(p.threads, api.Strand{Tid: m.tids, Pid: p.pid})
	return m.tids
}

func (p *person) adopt(child *person) {
	child.parent = p
	p.children = append(p.children, child)
	slices.SortFunc(p.children, func(a, b *person) int { return a.pid - b.pid })
}

func (p *person) drop(child *person) {
	i := slices.Index(p.children, child)
	p.children = slices.Delete(p.children, i, i+1)
}

// people is everybody who can be reached from the root on, by their pids.
func (m *model) people() []*person {
	l := slices.Clone(m.root.children)
	for i := 0; i < len(l); i++ {
		l = append(l, l[i].children...)
	}
	slices.SortFunc(l, func(a, b *person) int { return a.pid - b.pid })
	return l
}

// live is the process pid, if it lives.
func (m *model) live(pid int) *person {
	for _, p := range m.people() {
		if p.pid == pid && !p.zombie {
			return p
		}
	}
	return nil
}

// whose is a thread's process, and its place there.
func (m *model) whose(tid int) (*person, int) {
	for _, p := range m.people() {
		for i, s := range p.threads {
			if s.Tid == tid {
				return p, i
			}
		}
	}
	return nil, 0
}

func (m *model) strands() []int {
	var l []int
	for _, p := range m.people() {
		for _, s := range p.threads {
			l = append(l, s.Tid)
		}
	}
	slices.Sort(l)
	return l
}

func (m *model) end(p *person, code int) {
	p.zombie, p.code, p.threads = true, code, nil
	if p == m.init {
		m.init = nil
	}
	heir := m.root
	if m.init != nil {
		heir = m.init
	}
	for len(p.children) > 0 {
		child := p.children[0]
		p.drop(child)
		heir.adopt(child)
	}
	for _, orphan := range slices.Clone(m.root.children) {
		if orphan.zombie {
			m.root.drop(orphan)
		}
	}
}

// play is a table, and its model.
type play struct {
	*testing.T
	r *dice
	x *proc.Table
	m *model
}

// somebody is a pid that often is one.
func (p *play) somebody() int {
	if l := p.m.people(); len(l) > 0 && p.r.below(8) > 0 {
		return l[p.r.below(len(l))].pid
	}
	return p.r.below(len(p.m.all)+3) - 1
}

// some is a tid that often is one.
func (p *play) some() int {
	if l := p.m.strands(); len(l) > 0 && p.r.below(8) > 0 {
		return l[p.r.below(len(l))]
	}
	return p.r.below(p.m.tids+3) - 1
}

func (p *play) fork(pid int) {
	parent := p.m.live(pid)
	switch {
	case parent == nil:
		forkRefuses(p.T, p.x, pid, api.ErrProc)
	case len(p.m.people()) >= 32 || len(p.m.strands()) >= 64:
		forkRefuses(p.T, p.x, pid, api.ErrFull)
	default:
		child := p.m.birth(parent)
		forks(p.T, p.x, pid, child.pid, child.threads[0].Tid)
	}
}

func (p *play) spawn(pid int) {
	who := p.m.live(pid)
	switch {
	case who == nil:
		spawnRefuses(p.T, p.x, pid, api.ErrProc)
	case len(p.m.strands()) >= 64:
		spawnRefuses(p.T, p.x, pid, api.ErrFull)
	default:
		spawns(p.T, p.x, pid, p.m.thread(who))
	}
}

func (p *play) endThread(tid, code int) {
	who, i := p.m.whose(tid)
	if who == nil || who.threads[i].Ended {
		endRefuses(p.T, p.x, tid, api.ErrThread)
		return
	}
	who.threads[i].Ended, who.threads[i].Code = true, code
	last := true
	for _, s := range who.threads {
		last = last && s.Ended
	}
	if last {
		p.m.end(who, code)
	}
	ends(p.T, p.x, tid, code, last)
}

func (p *play) exit(pid, code int) {
	who := p.m.live(pid)
	if who == nil {
		exitRefuses(p.T, p.x, pid, api.ErrProc)
		return
	}
	var tids []int
	for _, s := range who.threads {
		tids = append(tids, s.Tid)
	}
	p.m.end(who, code)
	exits(p.T, p.x, pid, code, tids...)
}

func (p *play) wait(pid int) {
	who := p.m.live(pid)
	if who == nil {
		waitRefuses(p.T, p.x, pid, api.ErrProc)
		return
	}
	for _, child := range who.children {
		if child.zombie {
			waits(p.T, p.x, pid, child.pid, child.code)
			child.told++
			who.drop(child)
			return
		}
	}
	if len(who.children) == 0 {
		waitRefuses(p.T, p.x, pid, api.ErrNone)
	} else {
		waitRefuses(p.T, p.x, pid, api.ErrWait)
	}
}

func (p *play) join(tid, target int) {
	who, i := p.m.whose(tid)
	other, j := p.m.whose(target)
	switch {
	case who == nil || who.threads[i].Ended || other != who || tid == target:
		joinRefuses(p.T, p.x, tid, target, api.ErrThread)
	case !who.threads[j].Ended:
		joinRefuses(p.T, p.x, tid, target, api.ErrWait)
	default:
		joins(p.T, p.x, tid, target, who.threads[j].Code)
		who.threads = slices.Delete(who.threads, j, j+1)
	}
}

// step does one call; while the table grows births are more often than ends. The process 1 ends seldom.
func (p *play) step(grows bool) {
	code := p.r.below(2000) - 1000
	n := p.r.below(12)
	if grows && n >= 4 && n <= 6 {
		n -= 4
	}
	switch n {
	case 0, 1:
		p.fork(p.somebody())
	case 2:
		p.spawn(p.somebody())
	case 3, 4:
		p.endThread(p.some(), code)
	case 5, 6:
		if pid := p.somebody(); pid != 1 || p.r.below(4) == 0 {
			p.exit(pid, code)
		}
	case 7, 8:
		p.wait(p.somebody())
	case 9, 10:
		p.join(p.some(), p.some())
	default:
		p.x = p.x.Copy()
	}
}

// hold holds all that can be told of the table against the model.
func (p *play) hold() {
	p.Helper()
	var pids []int
	for _, who := range p.m.people() {
		pids = append(pids, who.pid)
		want := api.Kin{Pid: who.pid, Parent: who.parent.pid, Zombie: who.zombie, Code: who.code}
		for _, s := range who.threads {
			want.Threads = append(want.Threads, s.Tid)
			thread(p.T, p.x, s.Tid, s)
		}
		if k, e := p.x.Proc(who.pid); !alike(k, want) || e != api.OK {
			p.Fatalf("Proc(%d): %v %v, not %v", who.pid, k, e, want)
		}
		p.children(who)
	}
	p.children(p.m.root)
	procs(p.T, p.x, pids...)
	threads(p.T, p.x, p.m.strands()...)
	if p.Failed() {
		p.FailNow()
	}
}

func (p *play) children(who *person) {
	p.Helper()
	var l []int
	for _, child := range who.children {
		l = append(l, child.pid)
	}
	children(p.T, p.x, who.pid, l...)
}

// tree holds, by what the table tells alone, that nobody is its own ancestor, and each thread one live process's.
func (p *play) tree() {
	p.Helper()
	seen := map[int]bool{}
	for l := p.x.Children(0); len(l) > 0; l = l[1:] {
		if seen[l[0]] {
			p.Fatal("twice in the tree", l[0])
		}
		seen[l[0]] = true
		l = append(l, p.x.Children(l[0])...)
	}
	if len(seen) != len(p.x.Procs()) {
		p.Fatal("not all can be reached", seen, p.x.Procs())
	}
	whose := map[int]int{}
	for _, pid := range p.x.Procs() {
		k, _ := p.x.Proc(pid)
		if k.Zombie != (len(k.Threads) == 0) {
			p.Fatal("threads of", k)
		}
		for _, tid := range k.Threads {
			if s, e := p.x.Thread(tid); e != api.OK || s.Pid != pid || whose[tid] != 0 {
				p.Fatal("a thread", tid, s, e, whose[tid])
			}
			whose[tid] = pid
		}
	}
	if len(whose) != len(p.x.Threads()) {
		p.Fatal("threads of nobody", whose)
	}
}

// P24.1 to P24.6: whoever forks, spawns, ends, waits and joins, the table is the model's; each that ended is told once at most; parents make a tree.
func TestAgainstModel(t *testing.T) {
	r := dice(24)
	told, halts, full := 0, 0, 0
	for range 40 {
		p := &play{T: t, r: &r, x: proc.New(), m: newModel()}
		for i := range 300 {
			p.step(i%150 < 100)
			p.hold()
			if len(p.x.Procs()) == 32 || len(p.x.Threads()) == 64 {
				full++
			}
		}
		p.tree()
		if p.m.init == nil {
			halts++
		}
		for _, who := range p.m.all {
			told += who.told
			if who.told > 1 || who.told == 1 && !who.zombie {
				t.Error("told", who.pid, who.told)
			}
		}
	}
	if told < 150 || halts < 5 || halts > 35 || full < 100 {
		t.Error("told, plays in which the process 1 ended, steps of full tables:", told, halts, full)
	}
}

// P24.5: in the end each that ended has been told by just one Wait, of whoever was its parent then.
func TestEachIsToldOnce(t *testing.T) {
	r := dice(42)
	for range 30 {
		x := proc.New()
		alive := []int{1}
		told := map[int]int{} // codes by pids
		tell := func(pid int) {
			if child, code, e := x.Wait(pid); e == api.OK {
				if told[child] != 0 {
					t.Error("twice", child)
				}
				told[child] = code
			}
		}
		born := 1
		for range 300 {
			who := r.below(len(alive))
			switch r.below(4) {
			case 0, 1:
				if child, _, e := x.Fork(alive[who]); e == api.OK {
					alive = append(alive, child)
					born = child
				}
			case 2:
				if who > 0 {
					x.Exit(alive[who], 100+alive[who])
					alive = slices.Delete(alive, who, who+1)
				}
			default:
				tell(alive[who])
			}
		}
		for _, pid := range alive[1:] {
			x.Exit(pid, 100+pid)
		}
		for range 32 {
			tell(1)
		}
		waitRefuses(t, x, 1, api.ErrNone)
		for pid := 2; pid <= born; pid++ {
			if told[pid] != 100+pid {
				t.Error("told", pid, told[pid])
			}
		}
	}
}
