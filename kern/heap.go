package kern

import (
	"parapet/api"
	"parapet/resv"
	"parapet/slab"
	"parapet/space"
)

// mostRegions is how many regions of a space a call may make.
const mostRegions = 16

// holding is what objects of a kind are for: the number of the process, thread, space, open file, pipe or inode.
type holding struct{ kind, number int }

// hold makes an object of a process for each holding, of the bytes that a call has reserved.
func (k *kernel) hold(tid, pid int, l ...holding) {
	for _, x := range l {
		k.gate.Take(tid, slab.Size(x.kind))
		id, _ := k.heap.Alloc(x.kind, pid)
		k.objects[x] = append(k.objects[x], id)
	}
}

// drop lets all objects of holdings go.
func (k *kernel) drop(l ...holding) {
	for _, x := range l {
		k.cut(x, len(k.objects[x]))
	}
}

// cut lets some objects of a holding go.
func (k *kernel) cut(x holding, n int) {
	l := k.objects[x]
	for _, id := range l[len(l)-n:] {
		k.heap.Free(id)
	}
	if k.objects[x] = l[:len(l)-n]; len(l) == n {
		delete(k.objects, x)
	}
	in, _ := k.gate.Give(n * slab.Size(x.kind))
	k.admit(in)
}

// bytesOf is how many bytes the objects of holdings have.
func bytesOf(l []holding) int {
	n := 0
	for _, x := range l {
		n += slab.Size(x.kind)
	}
	return n
}

// spacious is what a space is held by: its regions as far as a call may make them.
func (k *kernel) spacious(s *space.Space) []holding {
	l := []holding{{api.KindSpace, s.Id()}}
	for range min(len(s.Regions()), mostRegions) {
		l = append(l, holding{api.KindRegion, s.Id()})
	}
	return l
}

// fit lets a process hold as many regions more, or fewer, as its space has than it had.
func (k *kernel) fit(t *thread, had int) {
	x := holding{api.KindRegion, t.space.Id()}
	n := len(t.space.Regions()) - had
	if n > 0 { // then it is one, as a call that maps or unmaps has reserved
		k.hold(t.tid, t.pid, x)
		return
	}
	// Of those beyond what a fork may make none was held.
	k.cut(x, min(-n, len(k.objects[x])))
}

// enter lets a call come in, or wait.
func (k *kernel) enter(tid, bound int) (bool, api.Errno) {
	in, e := k.gate.Enter(tid, bound)
	k.mark()
	return in, e
}

// leave lets a call go from the gate, if it is there.
func (k *kernel) leave(tid int) {
	in, _ := k.gate.Leave(tid)
	k.admit(in)
}

// admit lets threads go on that were let in.
func (k *kernel) admit(tids []int) {
	k.mark()
	for _, tid := range tids {
		k.threads[tid].stage = inside{}
		k.queues.Wake(tid)
	}
}

// mark keeps the most that the heap ever was.
func (k *kernel) mark() {
	x := k.gate.Heap()
	k.most = max(k.most, x.Live+x.Reserved)
}

// relieve helps those who would wait for ever: nobody is inside who could leave, and nobody goes on who could end.
func (k *kernel) relieve() {
	if !k.gate.Stalled() || !k.queues.Idle() {
		return
	}
	if pid, ok := resv.Victim(k.owners(), first); ok {
		k.kill(pid, codeKill)
		return
	}
	t := k.threads[k.gate.Seats()[0].Id]
	k.finish(t, fails(api.ENOMEM))
	k.queues.Wake(t.tid)
}

// owners is the processes that live, and what is theirs.
func (k *kernel) owners() []api.Owner {
	var l []api.Owner
	for _, pid := range k.family.Procs() {
		if k.lives(pid) {
			l = append(l, api.Owner{Id: pid, Bytes: k.heap.Owned(pid)})
		}
	}
	return l
}
