package pm

import (
	"maps"

	"parapet/api"
)

const (
	nobody = 0 // the parent of the process 1
	first  = 1 // the process that gets the children of those that end
)

// The codes with which processes are ended.
const (
	codeInsn   = -4  // what stands at PC is no instruction
	codeKill   = -9  // somebody killed it
	codeFault  = -11 // what was touched is not there
	codeMemory = -12 // the kernel has no frame for it
)

// process is a told one, with its pages and descriptors.
type process struct {
	api.Process
	pages memory
	fds   [api.MaxFds]int // the open files' numbers; 0: none
}

// thread is a told one, with the code with which it has ended.
type thread struct {
	api.Running
	code  uint32
	sleep int // the number of its sleep, till its fwait is told; 0: it did not sleep
}

// birth is a new process, without threads, pages and descriptors.
func (w *World) birth(parent int) *process {
	w.lastPid++
	p := &process{Process: api.Process{Pid: w.lastPid, Parent: parent}}
	w.procs[p.Pid] = p
	return p
}

// start is a new thread of a process.
func (w *World) start(p *process, c api.Cpu) {
	w.lastTid++
	w.threads[w.lastTid] = &thread{Running: api.Running{Tid: w.lastTid, Pid: p.Pid, Cpu: c, State: api.ThreadUser}}
}

// end ends a process that lives.
func (w *World) end(pid int, code int32) {
	if pid == first {
		w.halt()
		return
	}
	p := w.procs[pid]
	w.strip(p)
	p.Zombie, p.Code = true, code
	for _, child := range w.procs {
		if child.Parent == pid {
			child.Parent = first
		}
	}
}

// halt ends the process 1, and the world with it.
func (w *World) halt() {
	for _, p := range w.procs {
		w.strip(p)
	}
	clear(w.procs)
}

// strip takes a process's threads, descriptors and pages away.
func (w *World) strip(p *process) {
	maps.DeleteFunc(w.threads, func(_ int, t *thread) bool { return t.Pid == p.Pid })
	for fd, id := range p.fds {
		if id != 0 {
			w.close(p, fd)
		}
	}
	p.pages = nil
}

// others tells whether a process has a thread, beside t, that has not ended.
func (w *World) others(t *thread) bool {
	for _, x := range w.threads {
		if x.Pid == t.Pid && x != t && x.State != api.ThreadEnded {
			return true
		}
	}
	return false
}

// number is the call that a thread in a call makes; 0 of one that is none whatever calls there are.
func (t *thread) number() int {
	const most = 1<<31 - 1
	if t.Cpu.R[resultReg] > most {
		return 0
	}
	return int(t.Cpu.R[resultReg])
}

// args is a call's arguments.
func (t *thread) args() [3]uint32 {
	return [3]uint32(t.Cpu.R[argReg:])
}
