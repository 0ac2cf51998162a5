package pm

import (
	"slices"

	"parapet/api"
	"parapet/insn"
)

const (
	resultReg = 1 // the register of a call's number, and of its result
	argReg    = 2 // of its first argument
	stackReg  = 14
)

// Do lets an event happen, if it can be.
func (w *World) Do(e api.Event) api.Errno {
	if w.closed() {
		return api.ErrClosed
	}
	if w.Halted() || !w.happens(e) {
		return api.ErrEvent
	}
	return api.OK
}

// happens tells whether an event can be: then it has happened.
func (w *World) happens(e api.Event) bool {
	switch e.Kind {
	case api.EvInsn:
		return w.step(w.threads[e.Who])
	case api.EvCall:
		return w.call(w.threads[e.Who], e.Call, e.Result)
	case api.EvSleep:
		return w.sleep(w.threads[e.Who], e.Call)
	case api.EvKill:
		return w.kill(w.procs[e.Who], e.Result)
	case api.EvInput:
		return w.console.input(e.Bytes)
	case api.EvEnd:
		w.console.ended = true
		return true
	}
	return false
}

// step is an instruction.
func (w *World) step(t *thread) bool {
	if t == nil || t.State != api.ThreadUser {
		return false
	}
	m := w.procs[t.Pid].pages
	x, ok := m.word(t.Cpu.PC)
	if !ok {
		w.end(t.Pid, codeFault)
		return true
	}
	c, act := insn.Step(t.Cpu, x)
	switch act.Kind {
	case api.ActBad:
		w.end(t.Pid, codeInsn)
		return true
	case api.ActCall:
		t.State = api.ThreadCall
	case api.ActLoad, api.ActStore, api.ActCas:
		was, ok := m.touch(act)
		if !ok {
			w.end(t.Pid, codeFault)
			return true
		}
		c = insn.Finish(c, act, was)
	}
	t.Cpu = c
	return true
}

// call is a call's point.
func (w *World) call(t *thread, number int, result int32) bool {
	if !t.asks(number) {
		return false
	}
	d, o := w.look(t)
	// A code that join tells may be the number of an errno: then it is the code.
	if !o.allows(result) && t.sleep == 0 && slices.Contains(d.besides, -int(result)) {
		o = outcome{value: uint32(result)}
	}
	if !o.allows(result) || !o.did() {
		return false
	}
	if o.kind != leaves {
		t.Cpu.R[resultReg], t.State = uint32(result), api.ThreadUser
	}
	return true
}

// sleep lets a thread in a fwait go to sleep.
func (w *World) sleep(t *thread, number int) bool {
	if !t.asks(number) {
		return false
	}
	if _, o := w.look(t); o.kind != sleeps {
		return false
	}
	t.State, t.sleep = api.ThreadSleep, w.fresh()
	return true
}

// kill ends a process, as the kernel does.
func (w *World) kill(p *process, code int32) bool {
	if p == nil || p.Zombie || code != codeKill && code != codeMemory {
		return false
	}
	w.end(p.Pid, code)
	return true
}

// asks tells whether a thread is in a call of that number.
func (t *thread) asks(number int) bool {
	return t != nil && t.State == api.ThreadCall && t.number() == number
}
