package kern_test

import (
	"reflect"
	"testing"

	"parapet/api"
	"parapet/kern"
	"parapet/lin"
	"parapet/pm"
)

// tally is how often what was seen in plays.
type tally struct {
	calls map[[2]int]int // by calls' numbers, and what was told: 1, or an errno below 0
	kinds map[int]int
	boots map[api.Errno]int
}

func (x *tally) count(t api.Told) {
	for _, l := range t.Lives {
		x.boots[l.Boot]++
		for _, e := range l.Events {
			x.kinds[e.Kind]++
			if e.Kind == api.EvKill {
				x.kinds[int(e.Result)]++
			}
			if e.Kind == api.EvCall {
				x.calls[[2]int{e.Call, min(1, int(e.Result))}]++
			}
		}
	}
}

// explained holds what was told of a play against the model; Heap against the machine's.
func explained(t *testing.T, seed int, c api.Config, files []api.Placed, l []api.Life, told api.Told) {
	t.Helper()
	if told.Err != api.OK {
		t.Fatal("seed", seed, told.Err)
	}
	for i, x := range told.Lives {
		if x.Heap > c.Heap || x.Steps > l[i].Steps {
			t.Error("seed", seed, "heap", x.Heap, "of", c.Heap, "steps", x.Steps, "of", l[i].Steps)
		}
		// A log and a volume refuse no boot; a tree may be none with which one can begin.
		if x.Boot != api.OK && x.Boot != api.ErrKernel && x.Boot != api.ErrImage && x.Boot != api.ErrArg && x.Boot != api.ErrFull {
			t.Error("seed", seed, "boot", x.Boot)
		}
	}
	if ok, at := lin.Explain(files, l, told); !ok {
		t.Error("seed", seed)
		explains(t, told, at)
	}
}

// P27.4 to P27.8, of programs, machines, picks, ticks, input and crashes that are made by dice.
func TestPlays(t *testing.T) {
	seen := &tally{calls: map[[2]int]int{}, kinds: map[int]int{}, boots: map[api.Errno]int{}}
	for seed := range 1000 {
		w := &wild{TB: t, dice: newDice(seed)}
		c, files, l := w.play(2400)
		told := kern.Play(c, files, l)
		if told.Err == api.ErrSpace {
			continue
		}
		explained(t, seed, c, files, l, told)
		for i, x := range told.Lives {
			if reflect.DeepEqual(l[i].Picks, steady(c, l[i].Steps).Picks) {
				goesOn(t, seed, c, x)
			}
		}
		seen.count(told)
	}
	seen.enough(t)
}

// goesOn is P27.8: where all harts are picked something happens in each thousand rounds, if a thread is in user mode; much sooner on a log so small.
func goesOn(t *testing.T, seed int, c api.Config, x api.Lived) {
	t.Helper()
	if x.Boot != api.OK {
		return
	}
	w, e := pm.New(x.Tree)
	if e != api.OK {
		t.Fatal(e)
	}
	last := 0
	for _, e := range append(x.Events, api.Event{Step: x.Steps}) {
		if rounds := (e.Step - last) / c.Harts; rounds > 2*c.Layout.Log+6 && hasUser(w) {
			t.Errorf("seed %d: nothing happens from step %d to %d", seed, last, e.Step)
		}
		w.Do(e)
		last = e.Step
	}
}

func hasUser(w *pm.World) bool {
	for _, r := range w.Threads() {
		if r.State == api.ThreadUser {
			return true
		}
	}
	return false
}

// enough holds that the plays were of many kinds.
func (x *tally) enough(t *testing.T) {
	t.Helper()
	for number, errnos := range map[int][]int{
		api.CallExit: {}, api.CallFork: {api.ENOMEM, api.EAGAIN}, api.CallWait: {api.ECHILD, api.EFAULT}, api.CallKill: {api.ESRCH}, api.CallGetpid: nil, api.CallSpawn: {api.EAGAIN},
		api.CallJoin: {api.EINVAL, api.ESRCH}, api.CallTexit: {}, api.CallFwait: {api.EINVAL, api.EFAULT, api.EAGAIN}, api.CallFwake: {api.EINVAL},
		api.CallMmap: {api.EINVAL, api.ENOMEM}, api.CallMunmap: {api.EINVAL}, api.CallOpen: {api.EINVAL, api.EFAULT, api.ENAMETOOLONG, api.EMFILE, api.ENOTDIR, api.ENOENT, api.EISDIR},
		api.CallClose: {api.EBADF}, api.CallRead: {api.EBADF, api.EINVAL, api.EFAULT, api.EISDIR}, api.CallWrite: {api.EBADF, api.EINVAL, api.EFAULT, api.EISDIR, api.EFBIG, api.EPIPE},
		api.CallDup: {api.EBADF, api.EMFILE}, api.CallPipe: {api.EINVAL, api.EFAULT, api.EMFILE}, api.CallMkdir: {api.EEXIST, api.ENOENT}, api.CallUnlink: {api.EBUSY, api.ENOENT, api.ENOTEMPTY},
		api.CallLink: {api.EEXIST, api.EISDIR, api.ENOENT}, api.CallRename: {api.EBUSY, api.ENOENT, api.ENOTDIR}, api.CallSize: {api.EBADF, api.EINVAL}, api.CallSync: {api.ENOMEM},
		api.CallExec: {api.EBUSY, api.ENOENT, api.EISDIR}, api.CallYield: {}, api.CallSeek: {api.EBADF, api.EINVAL}, api.CallPoll: {api.EBADF, api.EINVAL},
	} {
		if x.calls[[2]int{number, 0}]+x.calls[[2]int{number, 1}] < 5 {
			t.Error("call", number, "was hardly ever done")
		}
		for _, errno := range errnos {
			if x.calls[[2]int{number, -errno}] == 0 {
				t.Error("call", number, "was never told", -errno)
			}
		}
	}
	for _, kind := range []int{api.EvInsn, api.EvCall, api.EvSleep, api.EvKill, api.EvInput, api.EvEnd, -9, -12} {
		if x.kinds[kind] < 5 {
			t.Error("events of kind", kind, x.kinds[kind])
		}
	}
	if x.boots[api.OK] < 500 || x.boots[api.ErrKernel] < 5 {
		t.Error("boots", x.boots)
	}
}

// The same, but the machine is held against itself behind each step, and what is told is the same each time.
func TestPlaysAreWatched(t *testing.T) {
	for seed := range 25 {
		w := &wild{TB: t, dice: newDice(10000 + seed)}
		c, files, l := w.play(1000)
		told, e := kern.Watch(c, files, l)
		if e != nil {
			t.Fatal("seed", seed, e)
		}
		if told.Err == api.ErrSpace {
			continue
		}
		explained(t, seed, c, files, l, told)
		if again := kern.Play(c, files, l); !reflect.DeepEqual(told, again) {
			t.Error("seed", seed, "told otherwise")
		}
	}
}

// P27.7: whatever programs' bytes are.
func TestAnyBytes(t *testing.T) {
	for seed := range 400 {
		d := newDice(seed)
		var b []byte
		for range 256 * (1 + d.below(12)) {
			b = append(b, byte(d.below(256)))
		}
		for at := 0; at+4 <= len(b); at += 4 { // mostly instructions, and calls of those that there are
			if d.below(10) > 0 {
				b[at] = byte(1 + d.below(28))
			}
			if d.below(3) == 0 {
				copy(b[at:], []byte{api.OpSys, 0, 0, 0})
			}
			if d.below(4) == 0 {
				copy(b[at:], []byte{api.OpLi, byte(d.of(1, 1, 2, 3, 4)), byte(d.below(40)), byte(d.of(0, 0, 20, 5, 128))})
			}
		}
		x := api.Image{Entry: 4 * d.below(len(b)/4), Segments: []api.Segment{{Bytes: b}}, Zero: []api.Region{{First: 16, Count: 8}}}
		if d.below(4) == 0 {
			x.Entry = 4 * d.below(1<<14)
		}
		files := []api.Placed{{Path: "/init", Bytes: imaged(t, x)}}
		w := &wild{TB: t, dice: d}
		c := w.config()
		l := []api.Life{w.life(c, 1500), w.life(c, 1500)}
		told := kern.Play(c, files, l)
		if told.Err == api.ErrSpace {
			continue
		}
		linked := false
		for _, e := range told.Lives[0].Events {
			linked = linked || e.Kind == api.EvCall && e.Call == api.CallLink && e.Result == 0
		}
		if !linked {
			explained(t, seed, c, files, l, told)
		}
	}
}
