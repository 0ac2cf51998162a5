package kern

import (
	"maps"
	"slices"

	"parapet/api"
	"parapet/call"
	"parapet/fdtab"
	"parapet/frame"
	"parapet/image"
	"parapet/phys"
	"parapet/pipe"
	"parapet/proc"
	"parapet/resv"
	"parapet/runq"
	"parapet/slab"
	"parapet/space"
	"parapet/tlb"
	"parapet/waitq"
)

const (
	first    = 1 // the process with which a machine begins and ends, and its thread
	initPath = "/init"
	wordSize = 4
)

// process is one that lives, or is a zombie: that has no space and no descriptors any more.
type process struct {
	pid   int
	space *space.Space
	fds   *fdtab.Table
}

// thread is one that its process has still, though it may have ended.
type thread struct {
	*process
	tid   int
	cpu   api.Cpu // in a call as it was when it called
	stage stage
}

// kernel is a machine that has booted.
type kernel struct {
	harts int
	volume

	memory  *phys.Mem
	frames  *frame.Frames
	tlb     *tlb.Tlb
	world   *space.World
	corpses []corpse

	gate    *resv.Gate
	heap    *slab.Heap
	objects map[holding][]int // their ids in the heap
	most    int               // the most bytes that lived or were reserved

	family   *proc.Table
	queues   *runq.Queues
	sleepers *waitq.Queue
	procs    map[int]*process
	threads  map[int]*thread
	deeds    map[int]deed

	files   *fdtab.Files
	console *pipe.Console
	pipes   map[int]*pipe.Pipe
	piped   int   // the last number that a pipe was given
	loose   []int // files without a name that nobody has open, and that are not freed yet

	step   int
	hart   int                // whose step it is
	due    [api.MaxHarts]bool // at which harts a tick is pending
	ticked int                // how many came
	halted bool
	events []api.Event
}

// newKernel is a machine without processes.
func newKernel(c api.Config, v volume) *kernel {
	k := &kernel{
		harts: c.Harts, volume: v,
		objects: map[holding][]int{}, deeds: deeds(),
		family: proc.New(), sleepers: waitq.New(), procs: map[int]*process{}, threads: map[int]*thread{},
		files: fdtab.New(), console: pipe.NewConsole(), pipes: map[int]*pipe.Pipe{},
	}
	// What these would refuse Check has.
	k.memory, _ = phys.New(c.Frames)
	k.frames, _ = frame.New(k.memory, 0, c.Frames, c.Harts)
	k.tlb, _ = tlb.New(c.Harts, c.Tlb)
	k.world, _ = space.NewWorld(k.memory, k.frames, k.tlb)
	k.gate, _ = resv.New(c.Heap)
	k.heap, _ = slab.New(api.MaxSlabs)
	k.queues, _ = runq.New(c.Harts)
	return k
}

// begin lets there be the process 1, with the image at /init.
func (k *kernel) begin() api.Errno {
	n, e := k.fs.Walk(initPath)
	if e != api.OK {
		return e
	}
	x, e := k.program(n)
	if e != api.OK {
		return e
	}
	s, e := k.lay(x)
	if e != api.OK {
		return e
	}
	p := &process{pid: first, space: s, fds: k.files.Table()}
	for _, flag := range []int{toRead, toWrite} {
		id, _ := k.files.Open(api.FileConsole, 0, flag)
		p.fds.Install(id)
	}
	// Nobody else is there, and the least heap has room for what a fork may make.
	l := append(k.spacious(s), holding{api.KindProcess, first}, holding{api.KindThread, first})
	k.enter(first, bytesOf(l))
	k.hold(first, first, l...)
	k.leave(first)
	k.procs[first] = p
	k.start(p, first, api.Cpu{PC: uint32(x.Entry)})
	return api.OK
}

// program is the image that a file's bytes are.
func (k *kernel) program(n int) (api.Image, api.Errno) {
	x, e := k.fs.Stat(n)
	if e != api.OK {
		return api.Image{}, e
	}
	b, e := k.fs.Read(n, 0, x.Size)
	if e != api.OK {
		return api.Image{}, e
	}
	return image.Parse(b)
}

// start lets a thread of a process be ready.
func (k *kernel) start(p *process, tid int, c api.Cpu) {
	k.threads[tid] = &thread{process: p, tid: tid, cpu: c, stage: user{}}
	k.queues.Wake(tid)
}

// run takes a life's steps, till they are used up, or the world halts, or the power goes.
func (k *kernel) run(l api.Life) {
	typed, ticks := map[int][]api.Typed{}, map[int][]int{}
	for _, x := range l.Input {
		typed[x.Step] = append(typed[x.Step], x)
	}
	for _, x := range l.Ticks {
		ticks[x.Step] = append(ticks[x.Step], x.Hart)
	}
	for k.step < l.Steps && !k.halted && !k.fs.Log().Disk().Off() {
		k.hart = 0
		k.come(typed[k.step]...)
		for _, hart := range ticks[k.step] {
			k.due[hart] = true
			k.ticked++
		}
		if k.step < len(l.Picks) {
			k.hart = l.Picks[k.step] % k.harts
		}
		k.act()
		k.behind()
		k.step++
	}
}

// come lets bytes come to the console.
func (k *kernel) come(l ...api.Typed) {
	for _, x := range l {
		if x.Bytes != "" && k.console.Type([]byte(x.Bytes)) == api.OK {
			k.note(api.Event{Kind: api.EvInput, Bytes: x.Bytes})
		}
		if x.End {
			k.console.End()
			k.note(api.Event{Kind: api.EvEnd})
		}
		k.wake(api.Chan{Kind: onConsole})
	}
}

// act is what the hart does in its step.
func (k *kernel) act() {
	if k.tlb.Handle(k.hart) > 0 {
		return
	}
	if k.due[k.hart] {
		k.due[k.hart] = false
		k.queues.Tick(k.hart)
		return
	}
	if t := k.threads[k.queues.Running(k.hart)]; t != nil {
		t.stage.step(k, t)
		return
	}
	k.queues.Next(k.hart)
}

// behind is what is seen to behind each step.
func (k *kernel) behind() {
	k.readers.Pass(k.hart)
	k.readers.Step()
	k.readers.Ready() // nothing is kept of a name that is let go
	if k.halted {
		return
	}
	k.relieve()
	k.bury()
	k.release()
}

// note lets an event have happened.
func (k *kernel) note(e api.Event) {
	e.Step, e.Hart = k.step, k.hart
	k.events = append(k.events, e)
}

// told is what became of the life.
func (k *kernel) told() api.Lived {
	x := api.Lived{Tree: k.tree, Events: k.events, Steps: k.step, Output: string(k.console.Output()), Heap: k.most}
	if k.halted {
		return x
	}
	for _, pid := range k.family.Procs() {
		p, _ := k.family.Proc(pid)
		x.Procs = append(x.Procs, api.Process{Pid: pid, Parent: p.Parent, Zombie: p.Zombie, Code: int32(p.Code)})
	}
	for _, tid := range slices.Sorted(maps.Keys(k.threads)) {
		t := k.threads[tid]
		x.Threads = append(x.Threads, api.Running{Tid: tid, Pid: t.pid, Cpu: t.cpu, State: t.stage.state()})
	}
	return x
}

// asks is the call that a thread makes.
func (t *thread) asks() api.Trap {
	x, _ := call.Decode(t.cpu)
	return x
}
