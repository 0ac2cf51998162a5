package kern

import (
	"parapet/api"
	"parapet/space"
)

// The codes with which processes are ended.
const (
	codeInsn   = -4
	codeKill   = -9
	codeFault  = -11
	codeMemory = -12
)

// corpse is a space that nobody has any more, and what must be settled ahead of its frames' going.
type corpse struct {
	space   *space.Space
	changes []api.Change
}

// kill ends a process by the kernel's own will.
func (k *kernel) kill(pid int, code int32) {
	k.note(api.Event{Kind: api.EvKill, Who: pid, Result: code})
	k.end(pid, code)
}

// end ends a process that lives.
func (k *kernel) end(pid int, code int32) {
	p := k.procs[pid]
	tids, _ := k.family.Exit(pid, int(code))
	if pid == first {
		k.halted = true
		return
	}
	var left []api.Change
	for _, tid := range tids {
		left = append(left, k.threads[tid].stage.quit(k)...)
		k.leave(tid) // who was let in by that may be one of them
	}
	for _, tid := range tids {
		k.forget(tid)
	}
	for _, fd := range p.fds.Fds() {
		k.shut(p, fd)
	}
	k.drop(holding{api.KindSpace, p.space.Id()}, holding{api.KindRegion, p.space.Id()})
	k.abandon(p.space, left...)
	p.space, p.fds = nil, nil
	child, _ := k.family.Proc(pid)
	k.wake(api.Chan{Kind: onChild, A: child.Parent})
	k.wake(api.Chan{Kind: onChild, A: first}) // its children are that one's
}

// forget lets there be no such thread any more.
func (k *kernel) forget(tid int) {
	k.queues.Remove(tid)
	k.sleepers.Cancel(tid)
	k.drop(holding{api.KindThread, tid}, holding{api.KindWaiter, tid})
	delete(k.threads, tid)
}

// abandon lets a space be nobody's. Its frames go when no hart keeps any of them.
func (k *kernel) abandon(s *space.Space, left ...api.Change) {
	c, _ := s.Unmap(0, api.Pages, k.keepers(s))
	k.corpses = append(k.corpses, corpse{space: s, changes: append(left, c)})
}

// bury frees those spaces whose changes are all settled.
func (k *kernel) bury() {
	var rest []corpse
	for _, x := range k.corpses {
		for len(x.changes) > 0 && x.space.Settle(k.hart, x.changes[0]) {
			x.changes = x.changes[1:]
		}
		if len(x.changes) > 0 {
			rest = append(rest, x)
			continue
		}
		x.space.Free(k.hart)
	}
	k.corpses = rest
}

// lives tells whether there is such a process that has not ended.
func (k *kernel) lives(pid int) bool {
	p := k.procs[pid]
	return p != nil && p.space != nil
}

// others tells whether a thread's process has another one that has not ended.
func (k *kernel) others(t *thread) bool {
	p, _ := k.family.Proc(t.pid)
	for _, tid := range p.Threads {
		if x, _ := k.family.Thread(tid); tid != t.tid && !x.Ended {
			return true
		}
	}
	return false
}
