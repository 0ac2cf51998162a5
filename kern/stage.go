package kern

import (
	"parapet/api"
	"parapet/call"
	"parapet/space"
)

// stage is how far a thread is with what it does.
type stage interface {
	step(k *kernel, t *thread)   // what it does when its hart lets it take a step
	state() int                  // how it stands, as is told
	quit(k *kernel) []api.Change // its process ends: the changes of its space that it was about to settle
}

// user is a thread in user mode.
type user struct{}

func (user) step(k *kernel, t *thread) { k.instruct(t) }
func (user) state() int                { return api.ThreadUser }
func (user) quit(*kernel) []api.Change { return nil }

// inCall is what threads in calls have in common.
type inCall struct{}

func (inCall) step(*kernel, *thread)     {}
func (inCall) state() int                { return api.ThreadCall }
func (inCall) quit(*kernel) []api.Change { return nil }

// coming is one that comes in.
type coming struct{ inCall }

func (coming) step(k *kernel, t *thread) {
	number := t.asks().Number
	in, e := k.enter(t.tid, call.Bound(number))
	switch {
	case e != api.OK:
		k.finish(t, fails(api.ENOMEM)) // it could never come in
	case in:
		t.stage = inside{}
	case number == api.CallExit || number == api.CallTexit:
		// It makes nothing, and those who wait do so for what it gives back.
		k.leave(t.tid)
		t.stage = inside{}
	default:
		t.stage = outside{}
		k.queues.Sleep(k.hart)
	}
}

// outside is one that waits to be let in.
type outside struct{ inCall }

// inside is one that has come in.
type inside struct{ inCall }

func (inside) step(k *kernel, t *thread) {
	// Whatever names it reads stay till it is over.
	k.readers.Enter(k.hart)
	k.do(t)
	k.readers.Leave(k.hart)
}

// settling is one that holds its space's lock, till a change is settled.
type settling struct {
	change api.Change
	then   stage
}

func (x settling) step(k *kernel, t *thread) {
	if !t.space.Settle(k.hart, x.change) {
		return
	}
	t.space.Unlock(t.tid)
	t.stage = x.then
	t.stage.step(k, t)
}

func (x settling) state() int { return x.then.state() }

func (x settling) quit(k *kernel) []api.Change {
	return append(x.then.quit(k), x.change)
}

// forked is one whose call fork has made another space.
type forked struct {
	inCall
	child *space.Space
}

func (x forked) step(k *kernel, t *thread) { k.finish(t, k.bear(t, x.child)) }

func (x forked) quit(k *kernel) []api.Change {
	k.abandon(x.child)
	return nil
}

// unmapped is one whose call munmap has taken pages away.
type unmapped struct {
	inCall
	regions int // that there were
}

func (x unmapped) step(k *kernel, t *thread) {
	k.fit(t, x.regions)
	k.finish(t, tells(0))
}

// asleep is one that sleeps on channels.
type asleep struct{ inCall }

// dozing is one that sleeps at a word.
type dozing struct{ inCall }

func (dozing) state() int { return api.ThreadSleep }

// woken is one that slept at a word.
type woken struct{ inCall }

func (woken) step(k *kernel, t *thread) { k.finish(t, tells(0)) }

// ended is one that has ended.
type ended struct{ inCall }

func (ended) state() int { return api.ThreadEnded }
