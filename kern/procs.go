package kern

import (
	"slices"

	"parapet/api"
	"parapet/call"
	"parapet/image"
	"parapet/space"
)

const (
	argReg   = 2 // the register of a thread's argument
	stackReg = 14
)

func (r *request) exit() outcome {
	r.end(r.p.pid, int32(r.a))
	return outcome{kind: parted}
}

func (r *request) texit() outcome {
	if !r.others(r.t) {
		r.end(r.p.pid, int32(r.a))
		return outcome{kind: parted}
	}
	r.family.End(r.t.tid, int(int32(r.a)))
	r.t.stage = ended{}
	r.queues.Remove(r.t.tid)
	r.leave(r.t.tid)
	r.wake(api.Chan{Kind: onThread, A: r.t.tid})
	return outcome{kind: parted}
}

func (r *request) fork() outcome {
	if r.crowded() {
		return fails(api.EAGAIN)
	}
	child, c, e := r.p.space.Fork(r.hart, r.keepers(r.p.space))
	if e != api.OK {
		return fails(api.ENOMEM)
	}
	r.settle(r.t, c, forked{child: child})
	return outcome{}
}

// crowded tells whether there are too many processes or threads for another process.
func (k *kernel) crowded() bool {
	return len(k.procs) >= api.MaxProcs || len(k.threads) >= api.MaxThreads
}

// bear lets there be a process that has a space which was forked.
func (k *kernel) bear(t *thread, s *space.Space) outcome {
	pid, tid, e := k.family.Fork(t.pid)
	if e != api.OK { // others forked meanwhile
		k.abandon(s)
		return fails(api.EAGAIN)
	}
	l := append(k.spacious(s), holding{api.KindProcess, pid}, holding{api.KindThread, tid})
	k.hold(t.tid, pid, l...)
	fds, _ := t.fds.Fork()
	k.procs[pid] = &process{pid: pid, space: s, fds: fds}
	c := t.cpu
	c.R[resultReg] = 0
	k.start(k.procs[pid], tid, c)
	return tells(pid)
}

func (r *request) wait() outcome {
	l := r.family.Children(r.p.pid)
	if len(l) == 0 {
		return fails(api.ECHILD)
	}
	at := slices.IndexFunc(l, func(pid int) bool { return !r.lives(pid) })
	if at < 0 {
		return sleeps(api.Chan{Kind: onChild, A: r.p.pid})
	}
	child, _ := r.family.Proc(l[at])
	if r.a != 0 {
		if r.a%wordSize != 0 || !r.has(r.a, wordSize) {
			return fails(api.EFAULT)
		}
		if o, ok := r.prepare(r.a, wordSize); !ok {
			return o
		}
		r.poke(r.a, uint32(child.Code))
	}
	r.family.Wait(r.p.pid)
	delete(r.procs, child.Pid)
	r.drop(holding{api.KindProcess, child.Pid})
	return tells(child.Pid)
}

func (r *request) kill() outcome {
	pid := int(r.a)
	if !r.lives(pid) {
		return fails(api.ESRCH)
	}
	r.end(pid, codeKill)
	if r.halted || !r.lives(r.p.pid) {
		return outcome{kind: parted}
	}
	return tells(0)
}

func (r *request) getpid() outcome { return tells(r.p.pid) }

func (r *request) gettid() outcome { return tells(r.t.tid) }

func (r *request) ticks() outcome { return tells(r.ticked) }

func (r *request) yield() outcome {
	r.giveWay()
	return tells(0)
}

func (r *request) spawn() outcome {
	tid, e := r.family.Spawn(r.p.pid)
	if e != api.OK {
		return fails(api.EAGAIN)
	}
	r.hold(r.t.tid, r.p.pid, holding{api.KindThread, tid})
	c := api.Cpu{PC: r.a}
	c.R[argReg], c.R[stackReg] = r.c, r.b
	r.start(r.p, tid, c)
	return tells(tid)
}

func (r *request) join() outcome {
	target := int(r.a)
	if target == r.t.tid {
		return fails(api.EINVAL)
	}
	code, e := r.family.Join(r.t.tid, target)
	switch e {
	case api.OK:
		r.forget(target)
		return tells(code)
	case api.ErrWait:
		return sleeps(api.Chan{Kind: onThread, A: target})
	}
	return fails(call.Errno(e))
}

// exec lets the process have another program's pages, and nothing else of its own.
func (r *request) exec() outcome {
	path, errno := r.path(r.a)
	if errno != 0 {
		return fails(errno)
	}
	if r.others(r.t) {
		return fails(api.EBUSY)
	}
	n, e := r.fs.Walk(path)
	if e != api.OK {
		return r.refuse(e)
	}
	if r.isDir(n) {
		return fails(api.EISDIR)
	}
	x, e := r.program(n)
	if e != api.OK {
		return r.refuse(e)
	}
	s, e := r.lay(x)
	if e != api.OK {
		return fails(api.ENOMEM)
	}
	r.hold(r.t.tid, r.p.pid, r.spacious(s)...)
	was := r.p.space
	r.p.space = s
	r.drop(holding{api.KindSpace, was.Id()}, holding{api.KindRegion, was.Id()})
	r.abandon(was)
	r.alone()
	return outcome{kind: told, cpu: &api.Cpu{PC: uint32(x.Entry)}}
}

// alone lets the process's other threads, which have ended, be gone.
func (r *request) alone() {
	p, _ := r.family.Proc(r.p.pid)
	for _, tid := range p.Threads {
		if tid != r.t.tid {
			r.family.Join(r.t.tid, tid)
			r.forget(tid)
		}
	}
}

// lay is a space that has an image.
func (k *kernel) lay(x api.Image) (*space.Space, api.Errno) {
	s, e := k.world.New(k.hart)
	if e != api.OK {
		return nil, e
	}
	if e := image.Lay(s, k.hart, x); e != api.OK {
		s.Free(k.hart)
		return nil, e
	}
	return s, api.OK
}
