package pm

import "parapet/api"

// The kinds of outcomes of a call.
const (
	returns = iota // it is told a value
	leaves         // it does not return
	waits          // it can't be done now
	sleeps         // it goes to sleep
	counts         // it is told any number of 0 or more
)

// outcome is what a call comes to, as all stands.
type outcome struct {
	kind  int
	value uint32
	do    func() bool // what it does then; false: it could not, and has changed nothing; nil: nothing
}

// deed is how a call's outcome is found; nothing changes by it.
type deed struct {
	look    func(*request) outcome
	besides []int // the errnos that may be told whatever else is
}

// request is a call that a thread makes.
type request struct {
	w       *World
	t       *thread
	p       *process
	a, b, c uint32
}

// by is a deed.
func by(look func(*request) outcome, besides ...int) deed {
	return deed{look: look, besides: besides}
}

// deeds is what calls do, by their numbers.
func deeds() map[int]deed {
	return map[int]deed{
		api.CallExit:   by((*request).exit),
		api.CallFork:   by((*request).fork, api.ENOMEM),
		api.CallWait:   by((*request).wait, api.ENOMEM),
		api.CallKill:   by((*request).kill),
		api.CallGetpid: by((*request).getpid),
		api.CallSpawn:  by((*request).spawn, api.ENOMEM),
		api.CallJoin:   by((*request).join, api.ENOMEM),
		api.CallTexit:  by((*request).texit),
		api.CallFwait:  by((*request).fwait, api.ENOMEM),
		api.CallFwake:  by((*request).fwake),
		api.CallMmap:   by((*request).mmap, api.ENOMEM),
		api.CallMunmap: by((*request).munmap, api.ENOMEM),
		api.CallOpen:   by((*request).open, api.ENOMEM, api.ENOSPC),
		api.CallClose:  by((*request).close),
		api.CallRead:   by((*request).read, api.ENOMEM),
		api.CallWrite:  by((*request).write, api.ENOMEM, api.ENOSPC),
		api.CallDup:    by((*request).dup),
		api.CallPipe:   by((*request).pipe, api.ENOMEM),
		api.CallMkdir:  by((*request).mkdir, api.ENOMEM, api.ENOSPC),
		api.CallUnlink: by((*request).unlink, api.ENOMEM, api.ENOSPC),
		api.CallLink:   by((*request).link, api.ENOMEM, api.ENOSPC),
		api.CallRename: by((*request).rename, api.ENOMEM, api.ENOSPC),
		api.CallSize:   by((*request).size),
		api.CallSync:   by((*request).nothing, api.ENOMEM),
		api.CallExec:   by((*request).exec, api.ENOMEM),
		api.CallYield:  by((*request).nothing),
		api.CallSeek:   by((*request).seek),
		api.CallGettid: by((*request).gettid),
		api.CallTicks:  by((*request).ticks),
		api.CallPoll:   by((*request).poll, api.ENOMEM),
	}
}

// look is what the call of a thread in a call would do.
func (w *World) look(t *thread) (deed, outcome) {
	d, ok := deeds()[t.number()]
	if !ok {
		return deed{}, fails(api.ENOSYS)
	}
	args := t.args()
	return d, d.look(&request{w: w, t: t, p: w.procs[t.Pid], a: args[0], b: args[1], c: args[2]})
}

// allows tells whether a result can be what a call is told.
func (o outcome) allows(result int32) bool {
	switch o.kind {
	case returns:
		return uint32(result) == o.value
	case leaves:
		return result == 0
	case counts:
		return result >= 0
	}
	return false
}

// did tells whether what a call does could be done: then it has been.
func (o outcome) did() bool {
	return o.do == nil || o.do()
}

// fails is a call that is told an errno, and does nothing.
func fails(errno int) outcome {
	return outcome{value: uint32(-errno)}
}

// tells is a call that is told a value, and does something.
func tells(value int, do func()) outcome {
	return outcome{value: uint32(value), do: always(do)}
}

// parts is a call that does something, and does not return.
func parts(do func()) outcome {
	return outcome{kind: leaves, do: always(do)}
}

func always(do func()) func() bool {
	return func() bool {
		do()
		return true
	}
}

// nothing is what sync and yield do.
func (r *request) nothing() outcome {
	return outcome{}
}

func (r *request) getpid() outcome {
	return outcome{value: uint32(r.t.Pid)}
}

func (r *request) gettid() outcome {
	return outcome{value: uint32(r.t.Tid)}
}

func (r *request) ticks() outcome {
	return outcome{kind: counts}
}
