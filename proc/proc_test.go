package proc_test

import (
	"math"
	"slices"
	"testing"

	"parapet/api"
	"parapet/proc"
)

// numbers that no process and no thread ever has.
func none() []int {
	return []int{0, -1, 1000, math.MinInt, math.MaxInt}
}

func forks(t *testing.T, x *proc.Table, pid, child, thread int) {
	t.Helper()
	if c, tid, e := x.Fork(pid); c != child || tid != thread || e != api.OK {
		t.Fatalf("Fork(%d): %d %d %v, not %d %d", pid, c, tid, e, child, thread)
	}
}

func forkRefuses(t *testing.T, x *proc.Table, pid int, want api.Errno) {
	t.Helper()
	if c, tid, e := x.Fork(pid); c != 0 || tid != 0 || e != want {
		t.Errorf("Fork(%d): %d %d %v, not %v", pid, c, tid, e, want)
	}
}

func spawns(t *testing.T, x *proc.Table, pid, thread int) {
	t.Helper()
	if tid, e := x.Spawn(pid); tid != thread || e != api.OK {
		t.Fatalf("Spawn(%d): %d %v, not %d", pid, tid, e, thread)
	}
}

func spawnRefuses(t *testing.T, x *proc.Table, pid int, want api.Errno) {
	t.Helper()
	if tid, e := x.Spawn(pid); tid != 0 || e != want {
		t.Errorf("Spawn(%d): %d %v, not %v", pid, tid, e, want)
	}
}

// ends holds what End tells; last: its process has ended with it.
func ends(t *testing.T, x *proc.Table, tid, code int, last bool) {
	t.Helper()
	if over, e := x.End(tid, code); over != last || e != api.OK {
		t.Errorf("End(%d, %d): %v %v, not %v", tid, code, over, e, last)
	}
}

func endRefuses(t *testing.T, x *proc.Table, tid int, want api.Errno) {
	t.Helper()
	if over, e := x.End(tid, 9); over || e != want {
		t.Errorf("End(%d): %v %v, not %v", tid, over, e, want)
	}
}

// exits holds which threads are gone.
func exits(t *testing.T, x *proc.Table, pid, code int, want ...int) {
	t.Helper()
	if l, e := x.Exit(pid, code); !slices.Equal(l, want) || e != api.OK {
		t.Errorf("Exit(%d, %d): %v %v, not %v", pid, code, l, e, want)
	}
}

func exitRefuses(t *testing.T, x *proc.Table, pid int, want api.Errno) {
	t.Helper()
	if l, e := x.Exit(pid, 9); len(l) != 0 || e != want {
		t.Errorf("Exit(%d): %v %v, not %v", pid, l, e, want)
	}
}

func waits(t *testing.T, x *proc.Table, pid, child, code int) {
	t.Helper()
	if c, n, e := x.Wait(pid); c != child || n != code || e != api.OK {
		t.Errorf("Wait(%d): %d %d %v, not %d %d", pid, c, n, e, child, code)
	}
}

func waitRefuses(t *testing.T, x *proc.Table, pid int, want api.Errno) {
	t.Helper()
	if c, n, e := x.Wait(pid); c != 0 || n != 0 || e != want {
		t.Errorf("Wait(%d): %d %d %v, not %v", pid, c, n, e, want)
	}
}

func joins(t *testing.T, x *proc.Table, tid, target, code int) {
	t.Helper()
	if n, e := x.Join(tid, target); n != code || e != api.OK {
		t.Errorf("Join(%d, %d): %d %v, not %d", tid, target, n, e, code)
	}
}

func joinRefuses(t *testing.T, x *proc.Table, tid, target int, want api.Errno) {
	t.Helper()
	if n, e := x.Join(tid, target); n != 0 || e != want {
		t.Errorf("Join(%d, %d): %d %v, not %v", tid, target, n, e, want)
	}
}

// alike tells whether two processes are the same; nil and the empty list are.
func alike(a, b api.Kin) bool {
	return a.Pid == b.Pid && a.Parent == b.Parent && a.Zombie == b.Zombie && a.Code == b.Code && slices.Equal(a.Threads, b.Threads)
}

// lives holds a process that lives.
func lives(t *testing.T, x *proc.Table, pid, parent int, threads ...int) {
	t.Helper()
	if k, e := x.Proc(pid); !alike(k, api.Kin{Pid: pid, Parent: parent, Threads: threads}) || e != api.OK {
		t.Errorf("Proc(%d): %v %v, not of %d, %v", pid, k, e, parent, threads)
	}
}

// zombie holds one that has ended.
func zombie(t *testing.T, x *proc.Table, pid, parent, code int) {
	t.Helper()
	if k, e := x.Proc(pid); !alike(k, api.Kin{Pid: pid, Parent: parent, Zombie: true, Code: code}) || e != api.OK {
		t.Errorf("Proc(%d): %v %v, not a zombie of %d, %d", pid, k, e, parent, code)
	}
}

// ended holds that no such process lives, whoever asks.
func ended(t *testing.T, x *proc.Table, pids ...int) {
	t.Helper()
	for _, pid := range pids {
		forkRefuses(t, x, pid, api.ErrProc)
		spawnRefuses(t, x, pid, api.ErrProc)
		exitRefuses(t, x, pid, api.ErrProc)
		waitRefuses(t, x, pid, api.ErrProc)
	}
}

// gone holds that there is no such process.
func gone(t *testing.T, x *proc.Table, pids ...int) {
	t.Helper()
	ended(t, x, pids...)
	for _, pid := range pids {
		if k, e := x.Proc(pid); !alike(k, api.Kin{}) || e != api.ErrProc {
			t.Errorf("Proc(%d): %v %v", pid, k, e)
		}
	}
}

func thread(t *testing.T, x *proc.Table, tid int, want api.Strand) {
	t.Helper()
	if s, e := x.Thread(tid); s != want || e != api.OK {
		t.Errorf("Thread(%d): %v %v, not %v", tid, s, e, want)
	}
}

// noThread holds that there is no such thread.
func noThread(t *testing.T, x *proc.Table, tids ...int) {
	t.Helper()
	for _, tid := range tids {
		if s, e := x.Thread(tid); s != (api.Strand{}) || e != api.ErrThread {
			t.Errorf("Thread(%d): %v %v", tid, s, e)
		}
		endRefuses(t, x, tid, api.ErrThread)
		for _, other := range x.Threads() {
			joinRefuses(t, x, tid, other, api.ErrThread)
			joinRefuses(t, x, other, tid, api.ErrThread)
		}
	}
}

func children(t *testing.T, x *proc.Table, pid int, want ...int) {
	t.Helper()
	if l := x.Children(pid); !slices.Equal(l, want) {
		t.Errorf("Children(%d): %v, not %v", pid, l, want)
	}
}

func procs(t *testing.T, x *proc.Table, want ...int) {
	t.Helper()
	if l := x.Procs(); !slices.Equal(l, want) {
		t.Errorf("Procs: %v, not %v", l, want)
	}
}

func threads(t *testing.T, x *proc.Table, want ...int) {
	t.Helper()
	if l := x.Threads(); !slices.Equal(l, want) {
		t.Errorf("Threads: %v, not %v", l, want)
	}
}

// P24.1

func TestNew(t *testing.T) {
	x := proc.New()
	procs(t, x, 1)
	threads(t, x, 1)
	lives(t, x, 1, 0, 1)
	thread(t, x, 1, api.Strand{Tid: 1, Pid: 1})
	children(t, x, 0, 1)
	children(t, x, 1)
	gone(t, x, none()...)
	gone(t, x, 2)
	noThread(t, x, none()...)
	noThread(t, x, 2)
	forks(t, proc.New(), 1, 2, 2)
	procs(t, x, 1)
}

func TestFork(t *testing.T) {
	x := proc.New()
	spawns(t, x, 1, 2)
	forks(t, x, 1, 2, 3)
	forks(t, x, 2, 3, 4)
	forks(t, x, 1, 4, 5)
	lives(t, x, 1, 0, 1, 2)
	lives(t, x, 2, 1, 3)
	lives(t, x, 3, 2, 4)
	lives(t, x, 4, 1, 5)
	thread(t, x, 5, api.Strand{Tid: 5, Pid: 4})
	children(t, x, 0, 1)
	children(t, x, 1, 2, 4)
	children(t, x, 2, 3)
	children(t, x, 3)
	procs(t, x, 1, 2, 3, 4)
	threads(t, x, 1, 2, 3, 4, 5)
	forkRefuses(t, x, 5, api.ErrProc)
	exits(t, x, 2, 6, 3)
	forkRefuses(t, x, 2, api.ErrProc)
	// What was refused has taken no numbers, and nobody gets one again.
	waits(t, x, 1, 2, 6)
	forks(t, x, 3, 5, 6)
}

func TestSpawn(t *testing.T) {
	x := proc.New()
	forks(t, x, 1, 2, 2)
	spawns(t, x, 2, 3)
	spawns(t, x, 1, 4)
	spawns(t, x, 2, 5)
	lives(t, x, 1, 0, 1, 4)
	lives(t, x, 2, 1, 2, 3, 5)
	thread(t, x, 5, api.Strand{Tid: 5, Pid: 2})
	for _, pid := range none() {
		spawnRefuses(t, x, pid, api.ErrProc)
	}
	exits(t, x, 2, 6, 2, 3, 5)
	spawnRefuses(t, x, 2, api.ErrProc)
	spawns(t, x, 1, 6)
	threads(t, x, 1, 4, 6)
}

func TestMostProcesses(t *testing.T) {
	x := proc.New()
	for pid := 2; pid <= 32; pid++ {
		forks(t, x, pid/2, pid, pid)
	}
	forkRefuses(t, x, 1, api.ErrFull)
	forkRefuses(t, x, 33, api.ErrProc)
	spawns(t, x, 7, 33)
	// A zombie is one of them till it was waited for.
	exits(t, x, 20, 5, 20)
	forkRefuses(t, x, 1, api.ErrFull)
	forkRefuses(t, x, 20, api.ErrProc)
	waits(t, x, 10, 20, 5)
	forks(t, x, 10, 33, 34)
	forkRefuses(t, x, 10, api.ErrFull)
}

func TestMostThreads(t *testing.T) {
	x := proc.New()
	forks(t, x, 1, 2, 2)
	for tid := 3; tid <= 64; tid++ {
		spawns(t, x, 1+tid%2, tid)
	}
	full := func() {
		t.Helper()
		for pid := 1; pid <= 2; pid++ {
			forkRefuses(t, x, pid, api.ErrFull)
			spawnRefuses(t, x, pid, api.ErrFull)
		}
		forkRefuses(t, x, 3, api.ErrProc)
		spawnRefuses(t, x, 3, api.ErrProc)
	}
	full()
	// One that has ended is one of them till somebody asked.
	ends(t, x, 10, 4, false)
	full()
	joins(t, x, 1, 10, 4)
	spawns(t, x, 2, 65)
	full()
	ends(t, x, 65, 4, false)
	joins(t, x, 3, 65, 4)
	forks(t, x, 1, 3, 66)
	if n := len(x.Threads()); n != 64 {
		t.Error("threads", n)
	}
	full = func() {
		t.Helper()
		for pid := 1; pid <= 3; pid++ {
			forkRefuses(t, x, pid, api.ErrFull)
			spawnRefuses(t, x, pid, api.ErrFull)
		}
	}
	full()
}

// P24.2

func TestEnd(t *testing.T) {
	x := proc.New()
	forks(t, x, 1, 2, 2)
	spawns(t, x, 2, 3)
	spawns(t, x, 2, 4)
	ends(t, x, 3, -5, false)
	thread(t, x, 3, api.Strand{Tid: 3, Pid: 2, Ended: true, Code: -5})
	lives(t, x, 2, 1, 2, 3, 4)
	endRefuses(t, x, 3, api.ErrThread)
	thread(t, x, 3, api.Strand{Tid: 3, Pid: 2, Ended: true, Code: -5})
	ends(t, x, 2, 6, false)
	lives(t, x, 2, 1, 2, 3, 4)
	waitRefuses(t, x, 1, api.ErrWait)
	ends(t, x, 4, 7, true)
	zombie(t, x, 2, 1, 7)
	noThread(t, x, 2, 3, 4)
	threads(t, x, 1)
	ended(t, x, 2)
	for _, tid := range none() {
		endRefuses(t, x, tid, api.ErrThread)
	}
	waits(t, x, 1, 2, 7)
}

// The last one that has not ended: threads that were joined, and other processes' threads, are none of them.
func TestEndOfTheLastOne(t *testing.T) {
	x := proc.New()
	forks(t, x, 1, 2, 2)
	forks(t, x, 2, 3, 3)
	spawns(t, x, 2, 4)
	ends(t, x, 2, 1, false)
	joins(t, x, 4, 2, 1)
	ends(t, x, 4, 8, true)
	zombie(t, x, 2, 1, 8)
	lives(t, x, 3, 1, 3)
	ends(t, x, 3, 0, true)
	zombie(t, x, 3, 1, 0)
	children(t, x, 1, 2, 3)
}

func TestExit(t *testing.T) {
	x := proc.New()
	forks(t, x, 1, 2, 2)
	spawns(t, x, 1, 3)
	spawns(t, x, 2, 4)
	spawns(t, x, 2, 5)
	ends(t, x, 4, 1, false)
	exits(t, x, 2, math.MinInt, 2, 4, 5)
	zombie(t, x, 2, 1, math.MinInt)
	threads(t, x, 1, 3)
	noThread(t, x, 2, 4, 5)
	procs(t, x, 1, 2)
	ended(t, x, 2)
	zombie(t, x, 2, 1, math.MinInt)
	for _, pid := range none() {
		exitRefuses(t, x, pid, api.ErrProc)
	}
	waits(t, x, 1, 2, math.MinInt)
	gone(t, x, 2)
}

// Children, zombies too, are the process 1's from then on; grandchildren stay where they are.
func TestChildrenOfWhoEnds(t *testing.T) {
	for _, by := range []string{"Exit", "End"} {
		x := proc.New()
		forks(t, x, 1, 2, 2)
		forks(t, x, 2, 3, 3)
		forks(t, x, 2, 4, 4)
		forks(t, x, 3, 5, 5)
		forks(t, x, 2, 6, 6)
		exits(t, x, 4, 44, 4)
		zombie(t, x, 4, 2, 44)
		if by == "Exit" {
			exits(t, x, 2, 22, 2)
		} else {
			ends(t, x, 2, 22, true)
		}
		children(t, x, 1, 2, 3, 4, 6)
		children(t, x, 2)
		children(t, x, 3, 5)
		lives(t, x, 3, 1, 3)
		zombie(t, x, 4, 1, 44)
		lives(t, x, 5, 3, 5)
		waits(t, x, 1, 2, 22)
		waits(t, x, 1, 4, 44)
		waitRefuses(t, x, 1, api.ErrWait)
		children(t, x, 1, 3, 6)
	}
}

// If the process 1 ends nobody has its children; zombies without a parent are gone.
func TestTheProcess1Ends(t *testing.T) {
	for _, by := range []string{"Exit", "End"} {
		x := proc.New()
		forks(t, x, 1, 2, 2)
		forks(t, x, 1, 3, 3)
		forks(t, x, 2, 4, 4)
		forks(t, x, 2, 5, 5)
		spawns(t, x, 1, 6)
		exits(t, x, 3, 33, 3)
		exits(t, x, 4, 44, 4)
		ends(t, x, 1, 0, false)
		if by == "Exit" {
			exits(t, x, 1, 11, 1, 6)
		} else {
			ends(t, x, 6, 11, true)
		}
		gone(t, x, 1, 3)
		procs(t, x, 2, 4, 5)
		threads(t, x, 2, 5)
		lives(t, x, 2, 0, 2)
		zombie(t, x, 4, 2, 44)
		children(t, x, 0, 2)
		children(t, x, 1)
		// Those whose parent lives still are told to it.
		exits(t, x, 5, 55, 5)
		zombie(t, x, 5, 2, 55)
		waits(t, x, 2, 4, 44)
		forks(t, x, 2, 6, 7)
		forks(t, x, 6, 7, 8)
		// Who would be the process 1's have no parent either.
		exits(t, x, 6, 66, 7)
		zombie(t, x, 6, 2, 66)
		lives(t, x, 7, 0, 8)
		children(t, x, 0, 2, 7)
		exits(t, x, 2, 22, 2)
		gone(t, x, 2, 5, 6)
		procs(t, x, 7)
		ends(t, x, 8, 77, true)
		procs(t, x)
		threads(t, x)
		children(t, x, 0)
		gone(t, x, 1, 2, 7)
	}
}

// P24.3

func TestWait(t *testing.T) {
	x := proc.New()
	waitRefuses(t, x, 1, api.ErrNone)
	for _, pid := range none() {
		waitRefuses(t, x, pid, api.ErrProc)
	}
	for pid := 2; pid <= 5; pid++ {
		forks(t, x, 1, pid, pid)
	}
	forks(t, x, 5, 6, 6)
	exits(t, x, 6, 66, 6)
	waitRefuses(t, x, 1, api.ErrWait)
	// The least pid goes first, whoever ended first; a grandchild is none of its.
	exits(t, x, 4, 44, 4)
	exits(t, x, 2, -22, 2)
	waits(t, x, 1, 2, -22)
	gone(t, x, 2)
	zombie(t, x, 4, 1, 44)
	waits(t, x, 1, 4, 44)
	waitRefuses(t, x, 1, api.ErrWait)
	waits(t, x, 5, 6, 66)
	waitRefuses(t, x, 5, api.ErrNone)
	exits(t, x, 3, 0, 3)
	exits(t, x, 5, math.MaxInt, 5)
	waits(t, x, 1, 3, 0)
	waits(t, x, 1, 5, math.MaxInt)
	waitRefuses(t, x, 1, api.ErrNone)
	procs(t, x, 1)
}

func TestJoin(t *testing.T) {
	x := proc.New()
	spawns(t, x, 1, 2)
	spawns(t, x, 1, 3)
	forks(t, x, 1, 2, 4)
	spawns(t, x, 2, 5)
	joinRefuses(t, x, 1, 2, api.ErrWait)
	joinRefuses(t, x, 1, 1, api.ErrThread)
	joinRefuses(t, x, 1, 4, api.ErrThread)
	for _, tid := range none() {
		joinRefuses(t, x, 1, tid, api.ErrThread)
		joinRefuses(t, x, tid, 1, api.ErrThread)
		joinRefuses(t, x, tid, tid, api.ErrThread)
	}
	ends(t, x, 2, -7, false)
	ends(t, x, 5, 50, false)
	// Who has ended asks nobody; another process's thread is not told of.
	joinRefuses(t, x, 2, 1, api.ErrThread)
	joinRefuses(t, x, 2, 2, api.ErrThread)
	joinRefuses(t, x, 2, 3, api.ErrThread)
	joinRefuses(t, x, 4, 2, api.ErrThread)
	joinRefuses(t, x, 1, 5, api.ErrThread)
	joins(t, x, 3, 2, -7)
	noThread(t, x, 2)
	lives(t, x, 1, 0, 1, 3)
	joinRefuses(t, x, 3, 2, api.ErrThread)
	joinRefuses(t, x, 1, 2, api.ErrThread)
	joins(t, x, 4, 5, 50)
	lives(t, x, 2, 1, 4)
	joinRefuses(t, x, 1, 3, api.ErrWait)
}

// P24.4

func TestCopy(t *testing.T) {
	x := proc.New()
	forks(t, x, 1, 2, 2)
	forks(t, x, 2, 3, 3)
	spawns(t, x, 2, 4)
	ends(t, x, 4, 40, false)
	exits(t, x, 3, 30, 3)
	y := x.Copy()
	each := func(z *proc.Table) {
		t.Helper()
		procs(t, z, 1, 2, 3)
		threads(t, z, 1, 2, 4)
		lives(t, z, 2, 1, 2, 4)
		zombie(t, z, 3, 2, 30)
		thread(t, z, 4, api.Strand{Tid: 4, Pid: 2, Ended: true, Code: 40})
		children(t, z, 1, 2)
	}
	each(x)
	each(y)
	// Behind it each goes on by itself, with the same numbers.
	waits(t, y, 2, 3, 30)
	joins(t, y, 2, 4, 40)
	forks(t, y, 2, 4, 5)
	exits(t, y, 1, 10, 1)
	each(x)
	z := x.Copy()
	exits(t, x, 2, 20, 2, 4)
	forks(t, x, 1, 4, 5)
	spawns(t, x, 4, 6)
	each(z)
	procs(t, y, 2, 4)
	threads(t, y, 2, 5)
}

// R3
func TestListsAreNobodyElses(t *testing.T) {
	x := proc.New()
	for pid := 2; pid <= 5; pid++ {
		forks(t, x, 1, pid, pid)
	}
	spawns(t, x, 1, 6)
	k, _ := x.Proc(1)
	other, _ := x.Proc(1)
	lists := [][]int{k.Threads, x.Procs(), x.Threads(), x.Children(1), x.Children(0), x.Children(9)}
	for _, l := range lists {
		l = l[:cap(l)]
		for i := range l {
			l[i] = 99
		}
	}
	if !slices.Equal(other.Threads, []int{1, 6}) {
		t.Error("two answers share", other)
	}
	lives(t, x, 1, 0, 1, 6)
	procs(t, x, 1, 2, 3, 4, 5)
	threads(t, x, 1, 2, 3, 4, 5, 6)
	children(t, x, 1, 2, 3, 4, 5)
	l, _ := x.Exit(1, 0)
	clear(l)
	threads(t, x, 2, 3, 4, 5)
}

func TestTablesThatNewDidNotGive(t *testing.T) {
	for _, x := range []*proc.Table{nil, {}} {
		for _, n := range append(none(), 1) {
			forkRefuses(t, x, n, api.ErrClosed)
			spawnRefuses(t, x, n, api.ErrClosed)
			endRefuses(t, x, n, api.ErrClosed)
			exitRefuses(t, x, n, api.ErrClosed)
			waitRefuses(t, x, n, api.ErrClosed)
			joinRefuses(t, x, n, 1, api.ErrClosed)
			joinRefuses(t, x, n, 2, api.ErrClosed)
			children(t, x, n)
			if k, e := x.Proc(n); !alike(k, api.Kin{}) || e != api.ErrClosed {
				t.Error("Proc", k, e)
			}
			if s, e := x.Thread(n); s != (api.Strand{}) || e != api.ErrClosed {
				t.Error("Thread", s, e)
			}
		}
		procs(t, x)
		threads(t, x)
		if y := x.Copy(); y != nil {
			t.Error("Copy", y)
		}
	}
}

// A table in which nobody is any more is one that New gave still.
func TestNobodyIsLeft(t *testing.T) {
	x := proc.New()
	exits(t, x, 1, 3, 1)
	for _, y := range []*proc.Table{x, x.Copy()} {
		gone(t, y, 1, 2)
		noThread(t, y, 1, 2)
		joinRefuses(t, y, 1, 2, api.ErrThread)
		procs(t, y)
		threads(t, y)
		children(t, y, 0)
	}
}

// Example 1.
func TestExample(t *testing.T) {
	x := proc.New()
	forks(t, x, 1, 2, 2)
	forks(t, x, 2, 3, 3)
	exits(t, x, 2, 7, 2)
	lives(t, x, 3, 1, 3)
	waits(t, x, 1, 2, 7)
	waitRefuses(t, x, 1, api.ErrWait)
	exits(t, x, 3, 8, 3)
	waits(t, x, 1, 3, 8)
	waitRefuses(t, x, 1, api.ErrNone)
}
