package kern

import (
	"fmt"
	"slices"

	"parapet/api"
	"parapet/pm"
	"parapet/ptab"
	"parapet/space"
)

// Watch plays lives as Play does, but behind each step the machine is held against itself, and behind each boot the volume. It tells the first thing that is not so.
func Watch(c api.Config, files []api.Placed, l []api.Life) (api.Told, error) {
	if e := Check(c, files, l); e != api.OK {
		return api.Told{Err: e}, nil
	}
	d, e := plant(c.Layout, files)
	if e != api.OK {
		return api.Told{Err: e}, nil
	}
	var t api.Told
	for i, x := range l {
		d.Stop(x.Stop)
		v, e := mount(d, c.Harts)
		lived := api.Lived{Boot: e, Tree: v.tree}
		if d.Off() {
			lived = api.Lived{Boot: api.ErrKernel}
		} else if e != api.OK || v.fs.Check() != api.OK {
			return t, fmt.Errorf("life %d: boot %v, volume %v", i, e, v.fs.Check())
		} else if _, e := pm.New(v.tree); e != api.OK {
			lived.Boot = e
		} else {
			k := newKernel(c, v)
			if lived.Boot = k.begin(); lived.Boot == api.OK {
				if e := k.watch(x); e != nil {
					return t, fmt.Errorf("life %d: step %d: %w", i, k.step, e)
				}
				lived = k.told()
			}
		}
		t.Lives = append(t.Lives, lived)
		d.Crash(persists(x.Torn, len(d.Pending())))
	}
	v, e := mount(d, c.Harts)
	if e != api.OK || v.fs.Check() != api.OK {
		return t, fmt.Errorf("last boot %v", e)
	}
	t.End = v.tree
	return t, nil
}

// watch takes a life's steps one by one.
func (k *kernel) watch(l api.Life) error {
	whole := l.Steps
	for l.Steps = 0; l.Steps <= whole; l.Steps++ {
		k.run(l)
		if k.step < l.Steps || k.halted {
			break
		}
		for _, check := range []func() error{k.rightHeap, k.rightThreads, k.rightKept, k.rightFrames, k.rightFiles} {
			if e := check(); e != nil {
				return e
			}
		}
	}
	return nil
}

// rightHeap: what lives is what objects have; what lives and is reserved is never above the heap.
func (k *kernel) rightHeap() error {
	x := k.gate.Heap()
	if x.Live != k.heap.Used() || x.Live+x.Reserved > x.Size || k.most > x.Size || k.most < x.Live+x.Reserved {
		return fmt.Errorf("heap %+v, objects of %d, at most %d", x, k.heap.Used(), k.most)
	}
	n := 0
	for x, l := range k.objects {
		n += len(l)
		if len(l) == 0 || x.kind == api.KindProcess && k.procs[x.number] == nil || (x.kind == api.KindThread || x.kind == api.KindWaiter) && k.threads[x.number] == nil {
			return fmt.Errorf("objects of %+v: %v", x, l)
		}
	}
	if n != k.heap.Live() {
		return fmt.Errorf("%d objects, %d in the heap", n, k.heap.Live())
	}
	for x, n := range k.owed() {
		if len(k.objects[x]) != n {
			return fmt.Errorf("%d objects of %+v, not %d", len(k.objects[x]), x, n)
		}
	}
	return nil
}

// owed is how many objects there must be of what there is.
func (k *kernel) owed() map[holding]int {
	l := map[holding]int{}
	for pid, p := range k.procs {
		l[holding{api.KindProcess, pid}] = 1
		if p.space != nil {
			l[holding{api.KindSpace, p.space.Id()}] = 1
		}
	}
	for tid := range k.threads {
		l[holding{api.KindThread, tid}] = 1
	}
	for _, id := range k.files.All() {
		if f, _ := k.files.Get(id); f.Kind != api.FileConsole {
			l[holding{api.KindFile, id}] = 1
		}
	}
	for id := range k.pipes {
		l[holding{api.KindPipe, id}] = 1
	}
	return l
}

// rightThreads: where threads stand is how far they are.
func (k *kernel) rightThreads() error {
	if len(k.threads) != len(k.family.Threads()) || len(k.procs) != len(k.family.Procs()) {
		return fmt.Errorf("threads %v, processes %v", k.family.Threads(), k.family.Procs())
	}
	seats := map[int]api.Seat{}
	for _, x := range k.gate.Seats() {
		seats[x.Id] = x
	}
	for tid, t := range k.threads {
		_, ready := k.queues.Where(tid)
		s, there := seats[tid]
		n := t.asks().Number
		parting := n == api.CallExit || n == api.CallTexit
		bed := len(k.objects[holding{api.KindWaiter, tid}])
		sleeps := len(k.sleepers.On(tid))
		goes := func(inside bool) bool {
			return ready && sleeps == 0 && bed == 0 && (there == inside || parting) && !s.Waits
		}
		ok := false
		switch x := t.stage.(type) {
		case user, coming, woken:
			ok = goes(false)
		case inside:
			ok = goes(true)
		case settling:
			_, free := x.then.(user)
			ok = goes(!free) && t.space.Locked() == tid
		case outside:
			ok = !ready && sleeps == 0 && bed == 0 && s.Waits
		case asleep, dozing:
			ok = !ready && sleeps == 1 && bed == 1 && !there
		case ended:
			ok = !ready && sleeps == 0 && bed == 0 && !there
		}
		if !ok || t.space == nil || k.procs[t.pid] != t.process {
			return fmt.Errorf("thread %d: %T %v, ready %v, seat %+v %v, sleeps %d, waiters %d", tid, t.stage, t.stage, ready, s, there, sleeps, bed)
		}
	}
	for pid, p := range k.procs {
		x, _ := k.family.Proc(pid)
		if x.Zombie != (p.space == nil) {
			return fmt.Errorf("process %d", pid)
		}
		if p.space == nil || p.space.Locked() == 0 {
			continue
		}
		t := k.threads[p.space.Locked()]
		if t == nil || t.process != p {
			return fmt.Errorf("process %d: its space is held by %d", pid, p.space.Locked())
		}
		if _, ok := t.stage.(settling); !ok {
			return fmt.Errorf("thread %d holds its space, and %T", t.tid, t.stage)
		}
	}
	if k.gate.Stalled() && k.queues.Idle() && k.gate.Seats()[0].Bound <= k.gate.Heap().Size-k.gate.Heap().Live {
		return fmt.Errorf("nobody goes on: %+v", k.gate.Seats())
	}
	return nil
}

// spaces is all that there are, and what is about to be settled of each.
func (k *kernel) spaces() map[*space.Space][]api.Change {
	l := map[*space.Space][]api.Change{}
	for _, p := range k.procs {
		if p.space != nil {
			l[p.space] = nil
		}
	}
	for _, t := range k.threads {
		if x, ok := t.stage.(settling); ok {
			l[t.space] = append(l[t.space], x.change)
			if y, ok := x.then.(forked); ok {
				l[y.child] = nil
			}
		}
	}
	for _, x := range k.corpses {
		l[x.space] = append(l[x.space], x.changes...)
	}
	return l
}

// rightKept: no hart keeps a frame that was let go; whose interrupt is not pending keeps what the tables say, or what can only be read still.
func (k *kernel) rightKept() error {
	ids := map[int]*space.Space{}
	for s := range k.spaces() {
		ids[s.Id()] = s
	}
	for hart := range k.harts {
		for _, key := range k.tlb.Kept(hart) {
			entry, _ := k.tlb.Look(hart, key)
			if k.frames.Count(ptab.Frame(entry)) == 0 {
				return fmt.Errorf("hart %d keeps %+v: frame %d, which is free", hart, key, ptab.Frame(entry))
			}
			if len(k.tlb.Pending(hart)) > 0 {
				continue
			}
			s := ids[key.Space]
			if s == nil {
				return fmt.Errorf("hart %d keeps %+v of no space", hart, key)
			}
			now, _ := s.Table().Get(key.Page)
			if ptab.Frame(now) != ptab.Frame(entry) || entry&api.PteWrite != 0 && now&api.PteWrite == 0 {
				return fmt.Errorf("hart %d keeps %+v: %x, not %x", hart, key, entry, now)
			}
		}
	}
	return nil
}

// rightFrames: a frame counts how many entries name it, one for each root and leaf, and each place in a change that is not settled; the others are free, and zeros.
func (k *kernel) rightFrames() error {
	counts := map[int]int{}
	for _, x := range k.corpses {
		if c := x.changes[0]; c.Shoot == 0 || k.tlb.Over(c.Shoot) {
			return fmt.Errorf("a space that nobody has is there still: %+v", c)
		}
	}
	for s, changes := range k.spaces() {
		for _, entry := range s.Table().All() {
			counts[ptab.Frame(entry)]++
		}
		for _, n := range append(s.Table().Leaves(), s.Table().Root()) {
			counts[n]++
		}
		for _, x := range changes {
			for _, n := range x.Frames {
				counts[n]++
			}
		}
	}
	for n, count := range k.frames.All() {
		if counts[n] != count {
			return fmt.Errorf("frame %d counts %d, not %d", n, count, counts[n])
		}
		delete(counts, n)
	}
	if len(counts) > 0 {
		return fmt.Errorf("frames that are free: %v", counts)
	}
	if k.step%50 == 0 && !k.frames.Right() {
		return fmt.Errorf("free frames are not right")
	}
	return nil
}

// rightFiles: open files and pipes are those that descriptors name; now and then the volume is looked at.
func (k *kernel) rightFiles() error {
	refs := map[int]int{}
	for _, p := range k.procs {
		if p.fds == nil {
			continue
		}
		for _, fd := range p.fds.Fds() {
			id, _ := p.fds.Get(fd)
			refs[id]++
		}
	}
	if len(refs) != len(k.files.All()) {
		return fmt.Errorf("open files %v, descriptors of %v", k.files.All(), refs)
	}
	pipes := map[int]int{}
	inodes := map[int]int{}
	for id, n := range refs {
		f, _ := k.files.Get(id)
		if f.Refs != n {
			return fmt.Errorf("file %d: %+v, %d descriptors", id, f, n)
		}
		switch f.Kind {
		case api.FileRead, api.FileWrite:
			pipes[f.What]++
		case api.FileInode:
			if f.Flags&ofDir == 0 {
				inodes[f.What]++
			}
		}
	}
	for id, p := range k.pipes {
		readers, writers := p.Ends()
		if readers > 1 || writers > 1 || pipes[id] != readers+writers {
			return fmt.Errorf("pipe %d: %d %d, %d open files", id, readers, writers, pipes[id])
		}
	}
	for n := range inodes {
		if x, e := k.fs.Stat(n); e != api.OK || x.Kind != api.InodeFile || len(k.objects[holding{api.KindInode, n}]) != 1 {
			return fmt.Errorf("inode %d: %+v %v", n, x, e)
		}
	}
	if len(k.loose) > 0 && !k.fs.Log().Running() && k.fs.Log().Room() > 8 {
		return fmt.Errorf("inodes %v are not freed", k.loose)
	}
	if len(pipes) != len(k.pipes) {
		return fmt.Errorf("pipes %v", pipes)
	}
	if k.step%100 == 0 {
		return k.rightVolume(inodes)
	}
	return nil
}

// rightVolume: all of the volume agrees, and who has no name is open, or about to be freed.
func (k *kernel) rightVolume(open map[int]int) error {
	if e := k.fs.Check(); e != api.OK {
		return fmt.Errorf("the volume: %v", e)
	}
	l, _ := k.fs.Orphans()
	for _, n := range l {
		if open[n] == 0 && !slices.Contains(k.loose, n) {
			return fmt.Errorf("inode %d is nobody's", n)
		}
	}
	return nil
}
