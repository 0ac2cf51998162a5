package pm

import (
	"cmp"
	"maps"
	"slices"

	"parapet/api"
	"parapet/image"
)

func (r *request) exit() outcome {
	return parts(func() { r.w.end(r.p.Pid, int32(r.a)) })
}

func (r *request) fork() outcome {
	if len(r.w.procs) >= api.MaxProcs || len(r.w.threads) >= api.MaxThreads {
		return fails(api.EAGAIN)
	}
	return tells(r.w.lastPid+1, func() {
		child := r.w.birth(r.p.Pid)
		child.pages, child.fds = maps.Clone(r.p.pages), r.p.fds
		for _, id := range child.fds {
			if id != 0 {
				r.w.files[id].Refs++
			}
		}
		c := r.t.Cpu
		c.R[resultReg] = 0
		r.w.start(child, c)
	})
}

func (r *request) wait() outcome {
	children := slices.DeleteFunc(sorted(r.w.procs), func(pid int) bool { return r.w.procs[pid].Parent != r.p.Pid })
	if len(children) == 0 {
		return fails(api.ECHILD)
	}
	at := slices.IndexFunc(children, func(pid int) bool { return r.w.procs[pid].Zombie })
	if at < 0 {
		return outcome{kind: waits}
	}
	child := r.w.procs[children[at]]
	if _, ok := r.p.pages.word(r.a); r.a != 0 && !ok {
		return fails(api.EFAULT)
	}
	return tells(child.Pid, func() {
		if r.a != 0 {
			r.p.pages.putWord(r.a, uint32(child.Code))
		}
		delete(r.w.procs, child.Pid)
	})
}

func (r *request) kill() outcome {
	p := r.w.procs[int(r.a)]
	if p == nil || p.Zombie {
		return fails(api.ESRCH)
	}
	return tells(0, func() { r.w.end(p.Pid, codeKill) })
}

func (r *request) spawn() outcome {
	if len(r.w.threads) >= api.MaxThreads {
		return fails(api.EAGAIN)
	}
	return tells(r.w.lastTid+1, func() {
		c := api.Cpu{PC: r.a}
		c.R[argReg], c.R[stackReg] = r.c, r.b
		r.w.start(r.p, c)
	})
}

func (r *request) join() outcome {
	x := r.w.threads[int(r.a)]
	switch {
	case x == r.t:
		return fails(api.EINVAL)
	case x == nil || x.Pid != r.t.Pid:
		return fails(api.ESRCH)
	case x.State != api.ThreadEnded:
		return outcome{kind: waits}
	}
	return outcome{value: x.code, do: always(func() { delete(r.w.threads, x.Tid) })}
}

func (r *request) texit() outcome {
	return parts(func() {
		if !r.w.others(r.t) {
			r.w.end(r.p.Pid, int32(r.a))
			return
		}
		r.t.State, r.t.code = api.ThreadEnded, r.a
	})
}

func (r *request) fwait() outcome {
	if r.t.sleep != 0 { // it was woken
		return tells(0, func() { r.t.sleep = 0 })
	}
	if r.a%wordSize != 0 {
		return fails(api.EINVAL)
	}
	x, ok := r.p.pages.word(r.a)
	switch {
	case !ok:
		return fails(api.EFAULT)
	case x != r.b:
		return fails(api.EAGAIN)
	}
	return outcome{kind: sleeps}
}

func (r *request) fwake() outcome {
	if r.a%wordSize != 0 {
		return fails(api.EINVAL)
	}
	l := r.sleepers()
	l = l[:min(uint32(len(l)), r.b)]
	return tells(len(l), func() {
		for _, t := range l {
			t.State = api.ThreadCall
		}
	})
}

// sleepers is the process's threads that sleep at the address that is asked for, in the order in which they went to sleep.
func (r *request) sleepers() []*thread {
	var l []*thread
	for _, t := range r.w.threads {
		if t.State == api.ThreadSleep && t.Pid == r.t.Pid && t.args()[0] == r.a {
			l = append(l, t)
		}
	}
	slices.SortFunc(l, func(x, y *thread) int { return cmp.Compare(x.sleep, y.sleep) })
	return l
}

func (r *request) mmap() outcome {
	if r.a == 0 || r.a > api.MaxMmap {
		return fails(api.EINVAL)
	}
	at, ok := r.p.pages.gap(api.MmapFrom, int(r.a))
	if !ok {
		return fails(api.ENOMEM)
	}
	return tells(at*api.PageSize, func() { r.p.pages.give(at, int(r.a)) })
}

func (r *request) munmap() outcome {
	at := r.a / api.PageSize
	// b is held against what is left, since the sum may wrap.
	if r.a%api.PageSize != 0 || r.b == 0 || at > api.Pages || r.b > api.Pages-at {
		return fails(api.EINVAL)
	}
	return tells(0, func() {
		for i := range int(r.b) {
			delete(r.p.pages, int(at)+i)
		}
	})
}

func (r *request) exec() outcome {
	names, errno := r.path(r.a)
	if errno != 0 {
		return fails(errno)
	}
	if r.w.others(r.t) {
		return fails(api.EBUSY)
	}
	n, errno := r.w.find(names)
	if errno != 0 {
		return fails(errno)
	}
	if r.w.nodes[n].dir {
		return fails(api.EISDIR)
	}
	x, e := image.Parse([]byte(r.w.nodes[n].bytes))
	if e != api.OK {
		return fails(api.ENOEXEC)
	}
	return tells(0, func() {
		maps.DeleteFunc(r.w.threads, func(_ int, t *thread) bool { return t.Pid == r.t.Pid && t != r.t })
		r.p.pages = lay(x)
		r.t.Cpu = api.Cpu{PC: uint32(x.Entry)}
	})
}
