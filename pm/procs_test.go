package pm_test

import (
	"slices"
	"strings"
	"testing"

	"parapet/api"
)

// P25.2: calls of processes, threads and memories, by the table of calls.

func TestExit(t *testing.T) {
	r := obeys(t)
	r.forks(1, 2)
	r.forks(2, 3)
	r.forks(2, 4)
	r.forks(1, 5)
	r.ends(4, api.CallExit, 7)
	r.process(api.Process{Pid: 4, Parent: 2, Zombie: true, Code: 7})
	r.calls(2, 6, api.CallSpawn, 0, 0, 0)
	r.blocks(6, api.CallJoin, 2)
	r.ends(2, api.CallExit, 1<<32-3)
	if l := r.tids(); !slices.Equal(l, []int{1, 3, 5}) {
		t.Error("threads", l)
	}
	if l := r.w.Procs(); !slices.Equal(l, []api.Process{{Pid: 1}, {Pid: 2, Parent: 1, Zombie: true, Code: -3}, {Pid: 3, Parent: 1}, {Pid: 4, Parent: 1, Zombie: true, Code: 7}, {Pid: 5, Parent: 1}}) {
		t.Error("processes", l)
	}
	for n := range 256 {
		if b, ok := r.w.Page(2, n); b != nil || ok {
			t.Fatal("page", n)
		}
	}
	r.ends(1, api.CallExit, 0)
	if !r.w.Halted() || len(r.w.Procs())+len(r.w.Threads()) != 0 {
		t.Error("the world goes on")
	}
}

func TestForkCall(t *testing.T) {
	r := obeys(t)
	r.puts(1, data, "both")
	r.asks(1, api.CallFork, 8, 9, 10)
	cpu := r.thread(1).Cpu
	r.told(1, 2)
	cpu.R[1] = 0
	if x := r.thread(2); x != (api.Running{Tid: 2, Pid: 2, Cpu: cpu, State: api.ThreadUser}) {
		t.Errorf("the child's thread %+v", x)
	}
	r.process(api.Process{Pid: 2, Parent: 1})
	if !slices.Equal(r.memory(1), r.memory(2)) {
		t.Error("another memory")
	}
	// Behind it nobody sees the other one's writes, or what else is done.
	r.puts(1, data, "mine")
	r.puts(2, data+4, "his")
	r.holds(1, data, "mine\x00")
	r.holds(2, data, "bothhis")
	r.calls(1, 128*256, api.CallMmap, 1)
	r.calls(2, 0, api.CallMunmap, data, 1)
	if _, ok := r.w.Page(2, 128); ok {
		t.Error("the parent's page")
	}
	r.holds(1, data, "mine\x00")
	r.calls(1, 2, api.CallDup, 0)
	r.calls(2, -api.EBADF, api.CallClose, 2)
	// Numbers are not given again.
	r.ends(2, api.CallExit, 0)
	r.calls(1, 2, api.CallWait, 0)
	r.calls(1, 3, api.CallFork)
	if l := r.tids(); !slices.Equal(l, []int{1, 3}) {
		t.Error("threads", l)
	}
}

// P25.2: 32 processes at most, zombies too.
func TestForkOfMany(t *testing.T) {
	r := obeys(t)
	for pid := 2; pid <= 32; pid++ {
		r.asks(1, api.CallFork, 0, 0, 0)
		r.does(api.Event{Kind: api.EvCall, Who: 1, Call: api.CallFork, Result: int32(pid)})
	}
	r.calls(1, -api.EAGAIN, api.CallFork)
	r.does(api.Event{Kind: api.EvKill, Who: 9, Result: -9})
	r.calls(1, -api.EAGAIN, api.CallFork)
	r.calls(32, -api.EAGAIN, api.CallFork)
	r.calls(1, 9, api.CallWait, 0)
	r.calls(1, 33, api.CallFork)
	r.calls(1, -api.EAGAIN, api.CallFork)
}

// 64 threads at most, ended ones too, whosever they are.
func TestManyThreads(t *testing.T) {
	r := obeys(t)
	r.forks(1, 2)
	for tid := 3; tid <= 64; tid++ {
		who := 1 + tid%2
		r.asks(who, api.CallSpawn, 0, 0, 0)
		r.does(api.Event{Kind: api.EvCall, Who: who, Call: api.CallSpawn, Result: int32(tid)})
	}
	for _, who := range []int{1, 2, 64} {
		r.calls(who, -api.EAGAIN, api.CallFork)
		r.calls(who, -api.EAGAIN, api.CallSpawn, 0, 0, 0)
	}
	r.ends(64, api.CallTexit, 3)
	r.calls(1, -api.EAGAIN, api.CallFork)
	r.calls(2, -api.EAGAIN, api.CallSpawn, 0, 0, 0)
	r.calls(1, 3, api.CallJoin, 64)
	r.calls(2, 65, api.CallSpawn, 0, 0, 0)
	r.calls(1, -api.EAGAIN, api.CallSpawn, 0, 0, 0)
	r.ends(65, api.CallExit, 0)
	r.calls(1, 3, api.CallFork)
	if l := r.tids(); len(l) != 32 || l[31] != 66 {
		t.Error("threads", l)
	}
}

func TestWait(t *testing.T) {
	r := obeys(t)
	r.calls(1, -api.ECHILD, api.CallWait, 0)
	r.calls(1, -api.ECHILD, api.CallWait, 3)
	for pid := 2; pid <= 4; pid++ {
		r.forks(1, pid)
	}
	r.forks(2, 5)
	r.calls(5, -api.ECHILD, api.CallWait, data)
	// Whether the word is there is asked when there is a zombie.
	r.blocks(1, api.CallWait, 1)
	r.ends(4, api.CallExit, 44)
	r.told(1, -api.EFAULT)
	r.ends(3, api.CallExit, 1<<32-33)
	for _, at := range []uint32{data + 1, data + 2, dead, dead - 2, dead - 3, 1 << 16, 1<<16 + data, 1<<32 - 4} {
		r.calls(1, -api.EFAULT, api.CallWait, at)
	}
	r.process(api.Process{Pid: 3, Parent: 1, Zombie: true, Code: -33})
	r.blocks(2, api.CallWait, data)
	r.calls(1, 3, api.CallWait, dead-4)
	r.holds(1, dead-4, "\xdf\xff\xff\xff")
	r.calls(1, 4, api.CallWait, 0)
	if l := r.pids(); !slices.Equal(l, []int{1, 2, 5}) {
		t.Error("processes", l)
	}
	r.blocks(1, api.CallWait, 0)
	r.ends(5, api.CallExit, 5)
	r.waits(1)
	r.told(2, 5)
	r.holds(2, data, "\x05\x00\x00\x00")
	r.does(api.Event{Kind: api.EvKill, Who: 2, Result: -12})
	r.told(1, 2)
	r.calls(1, -api.ECHILD, api.CallWait, 0)
}

// The children of who has ended, zombies too, are the process 1's.
func TestOrphans(t *testing.T) {
	r := obeys(t)
	r.forks(1, 2)
	r.forks(2, 3)
	r.forks(2, 4)
	r.forks(3, 5)
	r.ends(4, api.CallExit, 4)
	r.ends(2, api.CallExit, 2)
	r.process(api.Process{Pid: 3, Parent: 1})
	r.process(api.Process{Pid: 4, Parent: 1, Zombie: true, Code: 4})
	r.process(api.Process{Pid: 5, Parent: 3})
	r.calls(1, 2, api.CallWait, 0)
	r.calls(1, 4, api.CallWait, 0)
	r.blocks(1, api.CallWait, 0)
}

func TestKill(t *testing.T) {
	r := obeys(t)
	r.forks(1, 2)
	r.forks(1, 3)
	for _, pid := range []uint32{0, 4, 1000, 1 << 31, 1<<32 - 1} {
		r.calls(1, -api.ESRCH, api.CallKill, pid)
	}
	r.calls(2, 0, api.CallKill, 3)
	r.process(api.Process{Pid: 3, Parent: 1, Zombie: true, Code: -9})
	r.calls(1, -api.ESRCH, api.CallKill, 3)
	r.ends(2, api.CallKill, 2)
	r.process(api.Process{Pid: 2, Parent: 1, Zombie: true, Code: -9})
	if l := r.tids(); !slices.Equal(l, []int{1}) {
		t.Error("threads", l)
	}
	r.forks(1, 4)
	r.ends(4, api.CallKill, 1)
	if !r.w.Halted() || len(r.w.Procs())+len(r.w.Threads()) != 0 {
		t.Error("the world goes on")
	}
}

func TestNumbers(t *testing.T) {
	r := obeys(t)
	r.calls(1, 1, api.CallGetpid)
	r.calls(1, 1, api.CallGettid)
	r.calls(1, 2, api.CallSpawn, 0, 0, 0)
	r.calls(2, 1, api.CallGetpid)
	r.calls(2, 2, api.CallGettid)
	r.forks(2, 2)
	r.calls(3, 2, api.CallGetpid)
	r.calls(3, 3, api.CallGettid)
}

func TestSpawn(t *testing.T) {
	r := obeys(t)
	r.calls(1, 2, api.CallSpawn, 4, 1<<32-8, 77)
	want := api.Cpu{PC: 4}
	want.R[2], want.R[14] = 77, 1<<32-8
	if x := r.thread(2); x != (api.Running{Tid: 2, Pid: 1, Cpu: want, State: api.ThreadUser}) {
		t.Errorf("%+v", x)
	}
	// They share all memory.
	r.calls(1, 3, api.CallSpawn, 0, 0, 0)
	r.puts(3, data, "ours")
	r.holds(1, data, "ours")
	// One that begins nowhere ends the process with its first step.
	r.forks(1, 2)
	r.calls(4, 5, api.CallSpawn, dead, 0, 0)
	r.steps(5, 1)
	r.process(api.Process{Pid: 2, Parent: 1, Zombie: true, Code: -11})
	if l := r.tids(); !slices.Equal(l, []int{1, 2, 3}) {
		t.Error("threads", l)
	}
}

func TestJoin(t *testing.T) {
	r := obeys(t)
	r.calls(1, 2, api.CallSpawn, 0, 0, 0)
	r.calls(1, 3, api.CallSpawn, 0, 0, 0)
	r.forks(1, 2)
	r.calls(1, -api.EINVAL, api.CallJoin, 1)
	r.calls(2, -api.EINVAL, api.CallJoin, 2)
	for _, tid := range []uint32{0, 4, 5, 1 << 31, 1<<32 - 1} {
		r.calls(1, -api.ESRCH, api.CallJoin, tid)
	}
	r.calls(4, -api.ESRCH, api.CallJoin, 1)
	r.blocks(1, api.CallJoin, 2)
	r.ends(3, api.CallTexit, 33)
	r.waits(1)
	r.ends(2, api.CallTexit, 1<<32-22)
	if x := r.thread(2); x.State != api.ThreadEnded || x.Cpu.R[1] != api.CallTexit || x.Pid != 1 {
		t.Errorf("who has ended: %+v", x)
	}
	r.told(1, -22)
	if l := r.tids(); !slices.Equal(l, []int{1, 3, 4}) {
		t.Error("threads", l)
	}
	r.calls(1, -api.ESRCH, api.CallJoin, 2)
	r.calls(1, 33, api.CallJoin, 3)
	r.calls(1, -api.ESRCH, api.CallJoin, 3)
	// A code that is an errno's number is the code.
	r.calls(1, 5, api.CallSpawn, 0, 0, 0)
	r.ends(5, api.CallTexit, 1<<32-12)
	r.calls(1, -12, api.CallJoin, 5)
	r.calls(1, -api.ESRCH, api.CallJoin, 5)
	// Whom two wait for one is told, the other one finds none.
	for _, tid := range []int{6, 7} {
		r.calls(1, int32(tid), api.CallSpawn, 0, 0, 0)
	}
	r.blocks(6, api.CallJoin, 1)
	r.blocks(7, api.CallJoin, 1)
	r.ends(1, api.CallTexit, 1)
	r.told(7, 1)
	r.told(6, -api.ESRCH)
}

func TestTexit(t *testing.T) {
	r := obeys(t)
	r.forks(1, 2)
	r.calls(2, 3, api.CallSpawn, 0, 0, 0)
	r.calls(2, 4, api.CallSpawn, 0, 0, 0)
	r.ends(2, api.CallTexit, 2)
	r.refuses(api.Event{Kind: api.EvCall, Who: 2, Call: api.CallTexit})
	r.refuses(api.Event{Kind: api.EvInsn, Who: 2})
	r.sleeps(4, data, 0)
	r.ends(3, api.CallTexit, 3)
	// One that sleeps has not ended.
	r.process(api.Process{Pid: 2, Parent: 1})
	r.does(api.Event{Kind: api.EvKill, Who: 2, Result: -9})
	r.forks(1, 3)
	r.calls(5, 6, api.CallSpawn, 0, 0, 0)
	r.ends(5, api.CallTexit, 5)
	r.ends(6, api.CallTexit, 1<<32-66)
	r.process(api.Process{Pid: 3, Parent: 1, Zombie: true, Code: -66})
	if l := r.tids(); !slices.Equal(l, []int{1}) {
		t.Error("threads", l)
	}
	r.ends(1, api.CallTexit, 0)
	if !r.w.Halted() {
		t.Error("the world goes on")
	}
}

func TestFwait(t *testing.T) {
	r := obeys(t)
	r.puts(1, data, "\x01\x02\x03\x84")
	for _, at := range []uint32{data + 1, data + 2, data + 3, dead + 1, 1<<32 - 1} {
		r.calls(1, -api.EINVAL, api.CallFwait, at, 0)
	}
	for _, at := range []uint32{dead, 1 << 16, 1<<32 - 4, 1<<16 + data} {
		r.calls(1, -api.EFAULT, api.CallFwait, at, 0)
	}
	for _, x := range []uint32{0, 0x04030201, 0x84030200, 0x01020384} {
		r.calls(1, -api.EAGAIN, api.CallFwait, data, x)
		r.calls(1, -api.EINVAL, api.CallFwait, data+1, x)
	}
	r.calls(1, 2, api.CallSpawn, 0, 0, 0)
	r.sleeps(1, data, 0x84030201)
	r.refuses(api.Event{Kind: api.EvCall, Who: 1, Call: api.CallFwait})
	r.refuses(api.Event{Kind: api.EvSleep, Who: 1, Call: api.CallFwait})
	if _, _, ok := r.w.Asks(1); ok {
		t.Error("asleep, not in a call")
	}
	// Woken it is told 0, whatever the word is now.
	r.calls(2, 1, api.CallFwake, data, 1)
	r.puts(2, data, "turn")
	r.awakes(1)
	r.asks(1, api.CallFwait, data, 0x84030201, 0)
	r.refuses(api.Event{Kind: api.EvSleep, Who: 1, Call: api.CallFwait})
	r.told(1, -api.EAGAIN)
	// The word may be turned till it sleeps.
	r.blocks(1, api.CallFwait, data, 0x6e727574)
	r.puts(2, data, "back")
	r.refuses(api.Event{Kind: api.EvSleep, Who: 1, Call: api.CallFwait})
	r.told(1, -api.EAGAIN)
}

// What only fwait may do no other call does.
func TestOthersDoNotSleep(t *testing.T) {
	r := obeys(t)
	r.forks(1, 2)
	for n := range uint32(32) {
		if n == api.CallFwait {
			continue
		}
		r.asks(2, n, data, 0, 0)
		r.refuses(api.Event{Kind: api.EvSleep, Who: 2, Call: int(n)})
		r.refuses(api.Event{Kind: api.EvSleep, Who: 2, Call: api.CallFwait})
		r.does(api.Event{Kind: api.EvKill, Who: 2, Result: -9})
		r.calls(1, 2, api.CallWait, 0)
		r = obeys(t)
		r.forks(1, 2)
	}
}

func TestFwake(t *testing.T) {
	r := obeys(t)
	for _, at := range []uint32{data + 1, dead + 2, 1<<32 - 1} {
		r.calls(1, -api.EINVAL, api.CallFwake, at, 1)
	}
	for _, at := range []uint32{data, dead, 1 << 16, 1<<32 - 4} {
		r.calls(1, 0, api.CallFwake, at, 1<<32-1)
	}
	for tid := 2; tid <= 7; tid++ {
		r.calls(1, int32(tid), api.CallSpawn, 0, 0, 0)
	}
	r.forks(1, 2)
	r.sleeps(8, data, 0) // of another process
	for _, tid := range []int{5, 3, 7, 2} {
		r.sleeps(tid, data, 0)
	}
	r.sleeps(4, data+4, 0)
	r.calls(1, 0, api.CallFwake, data, 0)
	r.calls(1, 1, api.CallFwake, data, 1)
	r.awakes(5)
	r.sleeps(5, data, 0) // behind the others now
	r.calls(1, 2, api.CallFwake, data, 2)
	r.state(2, api.ThreadSleep)
	r.state(5, api.ThreadSleep)
	r.awakes(7)
	r.calls(1, 2, api.CallFwake, data, 1<<32-1)
	r.calls(1, 0, api.CallFwake, data, 9)
	// Who was woken need not go on at once.
	r.awakes(5)
	r.awakes(3)
	r.awakes(2)
	r.state(4, api.ThreadSleep)
	r.state(8, api.ThreadSleep)
	// A word that is there no more can be named still.
	r.calls(1, 0, api.CallMunmap, data, 1)
	r.calls(1, 1, api.CallFwake, data+4, 9)
	r.awakes(4)
	r.state(8, api.ThreadSleep)
}

func TestMmap(t *testing.T) {
	r := obeys(t)
	for _, n := range []uint32{0, 65, 128, 1<<32 - 1} {
		r.calls(1, -api.EINVAL, api.CallMmap, n)
	}
	r.calls(1, 128*256, api.CallMmap, 64)
	r.calls(1, 192*256, api.CallMmap, 1)
	r.calls(1, 193*256, api.CallMmap, 62)
	full := func(n uint32) {
		t.Helper()
		r.asks(1, api.CallMmap, n, 0, 0)
		// Since ENOMEM is marked, it is told of each mmap: what matters is that nothing else is.
		for page := range int32(257) {
			r.refuses(api.Event{Kind: api.EvCall, Who: 1, Call: api.CallMmap, Result: page * 256})
		}
		r.told(1, -api.ENOMEM)
	}
	full(2)
	r.calls(1, 255*256, api.CallMmap, 1)
	full(1)
	r.puts(1, 130*256-2, "over")
	r.holds(1, 129*256+254, "over")
	r.puts(1, 256*256-4, "last")
	r.calls(1, 0, api.CallMunmap, 129*256, 1)
	r.calls(1, 0, api.CallMunmap, 131*256, 2)
	r.calls(1, 0, api.CallMunmap, 255*256, 1)
	full(3)
	r.calls(1, 131*256, api.CallMmap, 2)
	r.calls(1, 129*256, api.CallMmap, 1)
	r.holds(1, 129*256, strings.Repeat("\x00", 256)+"er")
	// Pages below 128 are not looked for.
	r.calls(1, 0, api.CallMunmap, data, 1)
	r.calls(1, 255*256, api.CallMmap, 1)
	r.holds(1, 255*256, strings.Repeat("\x00", 256))
	full(1)
	if _, ok := r.w.Page(1, 3); ok {
		t.Error("a page below 128")
	}
}

func TestMunmap(t *testing.T) {
	r := obeys(t)
	for _, x := range [][2]uint32{{1, 1}, {255, 1}, {data + 128, 1}, {data, 0}, {data, 254}, {0, 257}, {255 * 256, 2}, {1 << 16, 1}, {1 << 16, 0}, {1<<32 - 256, 1}, {256, 1<<32 - 1}, {1<<32 - 256, 1<<32 - 1<<24 + 1}, {data, 1<<32 - 3}} {
		r.calls(1, -api.EINVAL, api.CallMunmap, x[0], x[1])
	}
	r.calls(1, 0, api.CallMunmap, data+256, 2)
	for n, want := range []bool{true, true, true, true, false, false, true, true, false} {
		if _, ok := r.w.Page(1, n); ok != want {
			t.Error("page", n, ok)
		}
	}
	// Pages that do not belong to it may be named.
	r.calls(1, 0, api.CallMunmap, data, 253)
	r.calls(1, 0, api.CallMunmap, 255*256, 1)
	for n := range 256 {
		if _, ok := r.w.Page(1, n); ok != (n < 3) {
			t.Error("page", n, ok)
		}
	}
	// What it stands in itself goes, too.
	r.forks(1, 2)
	r.calls(2, 0, api.CallMunmap, 0, 256)
	r.steps(2, 1)
	r.process(api.Process{Pid: 2, Parent: 1, Zombie: true, Code: -11})
}

// Example 2 of the whole: what one thread unmaps another one faults at.
func TestMunmapUnderAnother(t *testing.T) {
	r := obeys(t)
	r.forks(1, 2)
	r.calls(2, 3, api.CallSpawn, 0, 0, 0)
	r.runs(3)
	r.calls(2, 0, api.CallMunmap, 0, 1)
	// The buffer into which it would read was in that page.
	r.told(3, -api.EFAULT)
	r.steps(3, 1)
	r.process(api.Process{Pid: 2, Parent: 1, Zombie: true, Code: -11})
}

func TestExec(t *testing.T) {
	other := imaged(t, api.Image{Entry: 512, Segments: []api.Segment{{Addr: 512, Bytes: []byte("\x1c\x00\x00\x00")}}, Zero: []api.Region{{First: 126, Count: 2}}})
	r := obeys(t, api.Placed{Path: "/d", Dir: true}, api.Placed{Path: "/d/x", Bytes: other}, api.Placed{Path: "/text", Bytes: "#!"}, api.Placed{Path: "/none"})
	r.calls(1, -api.EFAULT, api.CallExec, dead)
	r.calls(1, -api.EINVAL, api.CallExec, r.path(1, "d/x"))
	r.calls(1, 2, api.CallSpawn, 0, 0, 0)
	for _, s := range []string{"/d/x", "/gone", "/", "/text", "/text/x"} {
		r.calls(1, -api.EBUSY, api.CallExec, r.path(1, s))
	}
	r.calls(1, -api.EINVAL, api.CallExec, r.path(1, ""))
	r.ends(2, api.CallTexit, 0)
	r.calls(1, -api.ENOENT, api.CallExec, r.path(1, "/gone"))
	r.calls(1, -api.ENOENT, api.CallExec, r.path(1, "/gone/x"))
	r.calls(1, -api.ENOTDIR, api.CallExec, r.path(1, "/text/x"))
	r.calls(1, -api.EISDIR, api.CallExec, r.path(1, "/d"))
	r.calls(1, -api.EISDIR, api.CallExec, r.path(1, "/"))
	r.calls(1, -api.ENOEXEC, api.CallExec, r.path(1, "/text"))
	r.calls(1, -api.ENOEXEC, api.CallExec, r.path(1, "/none"))
	r.calls(1, 0, api.CallPipe, data)
	r.forks(1, 2)
	r.calls(1, 128*256, api.CallMmap, 3)
	r.asks(1, api.CallExec, r.path(1, "//d/x/"), 0, 0)
	r.only(1, 0, false)
	r.does(api.Event{Kind: api.EvCall, Who: 1, Call: api.CallExec})
	if l := r.w.Threads(); len(l) != 2 || l[0] != (api.Running{Tid: 1, Pid: 1, Cpu: api.Cpu{PC: 512}, State: api.ThreadUser}) {
		t.Errorf("threads %+v", l)
	}
	for n := range 256 {
		if _, ok := r.w.Page(1, n); ok != (n == 2 || n == 126 || n == 127) {
			t.Error("page", n, ok)
		}
	}
	r.holds(1, 512, "\x1c"+strings.Repeat("\x00", 255))
	r.process(api.Process{Pid: 1})
	// The child is what it was; its parent holds the pipe still.
	r.holds(2, texts, "/none\x00")
	r.calls(3, 0, api.CallClose, 3)
	r.blocks(3, api.CallRead, 2, data, 1)
}

// Files are not pages: what a process writes its file has not, and the other way round.
func TestExecIsApart(t *testing.T) {
	r := obeys(t)
	r.forks(1, 2)
	r.asks(2, api.CallExec, r.path(2, "/init"), 0, 0)
	r.does(api.Event{Kind: api.EvCall, Who: 2, Call: api.CallExec})
	r.puts(2, 60, "mine")
	r.calls(1, 2, api.CallOpen, r.path(1, "/init"), 2)
	r.holds(2, 60, "mine")
	r.holds(1, 60, "\x00")
	r.forks(2, 3)
	r.calls(3, -api.ENOEXEC, api.CallExec, r.path(3, "/init"))
}

func TestSyncYieldTicks(t *testing.T) {
	r := obeys(t)
	r.calls(1, 0, api.CallSync, 1, 2, 3)
	r.calls(1, 0, api.CallYield, 1, 2, 3)
	for _, x := range []int32{0, 1, 77, 1<<31 - 1} {
		r.asks(1, api.CallTicks, 1, 2, 3)
		for _, no := range []int32{-1, -12, -28, -38, -1 << 31} {
			r.refuses(api.Event{Kind: api.EvCall, Who: 1, Call: api.CallTicks, Result: no})
		}
		was := &rig{t, r.w.Fork()}
		r.does(api.Event{Kind: api.EvCall, Who: 1, Call: api.CallTicks, Result: x})
		r.resulted(was, 1, x)
	}
}
