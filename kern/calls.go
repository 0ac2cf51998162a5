package kern

import (
	"parapet/api"
	"parapet/call"
)

const resultReg = 1

// The channels on which threads sleep.
const (
	onChild  = 1 + iota // of the process A
	onThread            // the end of the thread A
	onWord              // of the process A, at the address B
	onBytes             // that come to the pipe A
	onRoom              // in the pipe A
	onConsole
)

// The kinds of outcomes of a thread's step in a call.
const (
	stays  = iota // it is not done yet
	told          // a value
	parted        // it does not return
	slept
)

// outcome is what a thread's step in a call came to.
type outcome struct {
	kind  int
	value int32
	on    api.Chan // on which it sleeps
	cpu   *api.Cpu // with which it goes on; nil: with its own
}

// deed is what a call does.
type deed struct {
	do     func(*request) outcome
	spaced bool // it needs the space as it is when nobody changes it
}

// request is a call that a thread makes.
type request struct {
	*kernel
	t       *thread
	p       *process
	a, b, c uint32
}

// deeds is what calls do, by their numbers.
func deeds() map[int]deed {
	return map[int]deed{
		api.CallExit:   {do: (*request).exit},
		api.CallFork:   {do: (*request).fork, spaced: true},
		api.CallWait:   {do: (*request).wait, spaced: true},
		api.CallKill:   {do: (*request).kill},
		api.CallGetpid: {do: (*request).getpid},
		api.CallSpawn:  {do: (*request).spawn},
		api.CallJoin:   {do: (*request).join},
		api.CallTexit:  {do: (*request).texit},
		api.CallFwait:  {do: (*request).fwait, spaced: true},
		api.CallFwake:  {do: (*request).fwake},
		api.CallMmap:   {do: (*request).mmap, spaced: true},
		api.CallMunmap: {do: (*request).munmap, spaced: true},
		api.CallOpen:   {do: (*request).open, spaced: true},
		api.CallClose:  {do: (*request).close},
		api.CallRead:   {do: (*request).read, spaced: true},
		api.CallWrite:  {do: (*request).write, spaced: true},
		api.CallDup:    {do: (*request).dup},
		api.CallPipe:   {do: (*request).pipe, spaced: true},
		api.CallMkdir:  {do: (*request).mkdir, spaced: true},
		api.CallUnlink: {do: (*request).unlink, spaced: true},
		api.CallLink:   {do: (*request).link, spaced: true},
		api.CallRename: {do: (*request).rename, spaced: true},
		api.CallSize:   {do: (*request).size},
		api.CallSync:   {do: (*request).sync},
		api.CallExec:   {do: (*request).exec, spaced: true},
		api.CallYield:  {do: (*request).yield},
		api.CallSeek:   {do: (*request).seek},
		api.CallGettid: {do: (*request).gettid},
		api.CallTicks:  {do: (*request).ticks},
		api.CallPoll:   {do: (*request).poll},
	}
}

// do goes on with the call of a thread that is inside.
func (k *kernel) do(t *thread) {
	x := t.asks()
	d, ok := k.deeds[x.Number]
	switch {
	case !ok:
		k.finish(t, fails(api.ENOSYS))
	case d.spaced && k.barred(t):
		k.giveWay()
	default:
		k.finish(t, d.do(&request{kernel: k, t: t, p: t.process, a: x.Args[0], b: x.Args[1], c: x.Args[2]}))
	}
}

// finish lets a step in a call come to an end, and the call, if it is done.
func (k *kernel) finish(t *thread, o outcome) {
	e := api.Event{Kind: api.EvCall, Who: t.tid, Call: t.asks().Number, Result: o.value}
	switch o.kind {
	case told:
		if o.cpu != nil {
			t.cpu = *o.cpu
		}
		t.cpu.R[resultReg], t.stage = uint32(o.value), user{}
		k.leave(t.tid)
		k.note(e)
	case parted:
		k.note(e)
	case slept:
		k.sleep(t, o.on)
	}
}

// sleep lets a thread that is inside leave, and sleep till it is woken.
func (k *kernel) sleep(t *thread, on api.Chan) {
	k.hold(t.tid, t.pid, holding{api.KindWaiter, t.tid})
	k.sleepers.Sleep(t.tid, []api.Chan{on})
	k.queues.Remove(t.tid)
	t.stage = asleep{}
	if on.Kind == onWord {
		t.stage = dozing{}
		k.note(api.Event{Kind: api.EvSleep, Who: t.tid, Call: api.CallFwait})
	}
	k.leave(t.tid)
}

// wake wakes all that sleep on a channel.
func (k *kernel) wake(on api.Chan) {
	k.wakeSome(on, api.MaxThreads)
}

// wakeSome wakes the first ones of them, and tells how many those are.
func (k *kernel) wakeSome(on api.Chan, most int) int {
	l := k.sleepers.Wake(on, most)
	for _, tid := range l {
		t := k.threads[tid]
		t.stage = coming{}
		if on.Kind == onWord {
			t.stage = woken{}
		}
		k.queues.Wake(tid)
		k.drop(holding{api.KindWaiter, tid})
	}
	return len(l)
}

// tells is a call that is told a value.
func tells(value int) outcome {
	return outcome{kind: told, value: int32(value)}
}

// fails is a call that is told an errno.
func fails(errno int) outcome {
	return tells(int(int32(call.Result(0, errno))))
}

// sleeps is a call that can't be done till somebody wakes the thread.
func sleeps(on api.Chan) outcome {
	return outcome{kind: slept, on: on}
}
