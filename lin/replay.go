package lin

import (
	"slices"

	"parapet/api"
	"parapet/pm"
)

// replayed is what became of a life that was held against the model.
type replayed struct {
	explained bool
	at        int    // else: which event can't be
	found     *trees // that may be found behind it
}

// replay lets a life's events happen in the model that begins with a tree.
func replay(tree []api.Placed, l api.Lived) replayed {
	if l.Boot != api.OK || !Same(l.Tree, tree) {
		return replayed{}
	}
	w, e := pm.New(tree)
	if e != api.OK {
		return replayed{}
	}
	x := replayed{found: newTrees(w.Tree())}
	least := 0
	for i, e := range l.Events {
		if e.Step < least || e.Step >= l.Steps || w.Do(e) != api.OK {
			return replayed{at: i}
		}
		least = e.Step
		x.follow(w, e)
	}
	if w.Output() != l.Output || !slices.Equal(w.Procs(), l.Procs) || !slices.Equal(w.Threads(), l.Threads) {
		return replayed{at: len(l.Events)}
	}
	x.explained = true
	return x
}

// follow takes in the tree behind an event.
func (x *replayed) follow(w *pm.World, e api.Event) {
	if e.Kind != api.EvCall {
		return
	}
	switch e.Call {
	case api.CallSync:
		// What was there ahead of it is there no more, if it was told that all lasts.
		if e.Result == 0 {
			x.found.clear()
			x.found.add(w.Tree())
		}
	case api.CallOpen, api.CallWrite, api.CallMkdir, api.CallUnlink, api.CallLink, api.CallRename:
		x.found.add(w.Tree())
	}
}
