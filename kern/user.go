package kern

import (
	"slices"

	"parapet/api"
	"parapet/insn"
	"parapet/space"
)

// instruct lets a thread do an instruction, or see to it that it can be tried again.
func (k *kernel) instruct(t *thread) {
	at, ok := k.touch(t, t.cpu.PC, wordSize, false)
	if !ok {
		return
	}
	w, _ := k.memory.Load32(at)
	c, act := insn.Step(t.cpu, w)
	switch act.Kind {
	case api.ActBad:
		k.perish(t, codeInsn)
		return
	case api.ActCall:
		t.stage = coming{}
	case api.ActLoad, api.ActStore, api.ActCas:
		at, ok := k.touch(t, act.Addr, act.Size, act.Kind != api.ActLoad)
		if !ok {
			return
		}
		c = insn.Finish(c, act, k.access(at, act))
	}
	t.cpu = c
	k.note(api.Event{Kind: api.EvInsn, Who: t.tid})
}

// touch is the physical address of what an instruction touches. False: it is not there yet, or the process has ended.
func (k *kernel) touch(t *thread, addr uint32, size int, write bool) (int, bool) {
	if addr%uint32(size) != 0 {
		k.perish(t, codeFault)
		return 0, false
	}
	at, e := t.space.Touch(k.hart, addr, write)
	if e != api.OK {
		k.fault(t, addr, write)
		return 0, false
	}
	return at, true
}

// access does what an instruction asks of the memory, and tells what was there.
func (k *kernel) access(at int, x api.Act) uint32 {
	if x.Size < wordSize {
		was, _ := k.memory.Load8(at)
		if x.Kind == api.ActStore {
			k.memory.Store8(at, byte(x.Value))
		}
		return uint32(was)
	}
	if x.Kind == api.ActCas {
		was, _ := k.memory.Cas(at, x.Old, x.Value)
		return was
	}
	was, _ := k.memory.Load32(at)
	if x.Kind == api.ActStore {
		k.memory.Store32(at, x.Value)
	}
	return was
}

// perish ends a thread's process by the instruction that it does.
func (k *kernel) perish(t *thread, code int32) {
	k.note(api.Event{Kind: api.EvInsn, Who: t.tid})
	k.end(t.pid, code)
}

// fault sees to it that a touch of a thread in user mode can be tried again.
func (k *kernel) fault(t *thread, addr uint32, write bool) {
	if k.barred(t) {
		k.giveWay()
		return
	}
	switch k.mend(t, addr, write) {
	case api.FaultBad:
		k.perish(t, codeFault)
	case api.FaultNoMem:
		k.kill(t.pid, codeMemory)
	}
}

// mend does what a touch that failed asks for. Behind FaultWait the thread holds the lock till the change is settled, and then goes on as it stood.
func (k *kernel) mend(t *thread, addr uint32, write bool) int {
	kind, c := t.space.Fault(k.hart, addr, write, k.keepers(t.space))
	if kind == api.FaultWait {
		k.settle(t, c, t.stage)
	}
	return kind
}

// settle lets a thread hold its space's lock till a change is settled, and go on then; that may be now.
func (k *kernel) settle(t *thread, c api.Change, then stage) {
	t.space.Lock(t.tid)
	t.stage = settling{change: c, then: then}
	t.stage.step(k, t)
}

// barred tells whether somebody else holds a thread's space's lock.
func (k *kernel) barred(t *thread) bool {
	return t.space.Locked() != 0
}

// giveWay lets others of the hart go ahead of a thread that can only try again: it may be one of them for whom it waits.
func (k *kernel) giveWay() {
	k.queues.Tick(k.hart)
}

// keepers is the harts, beside the one whose step it is, that may keep translations of a space. That one forgets them.
func (k *kernel) keepers(s *space.Space) []int {
	k.tlb.Flush(k.hart, s.Id())
	var l []int
	for hart := range k.harts {
		if slices.ContainsFunc(k.tlb.Kept(hart), func(x api.Key) bool { return x.Space == s.Id() }) {
			l = append(l, hart)
		}
	}
	return l
}
