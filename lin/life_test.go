package lin_test

import (
	"reflect"
	"slices"
	"testing"

	"parapet/api"
	"parapet/lin"
)

// P28.1

func TestSame(t *testing.T) {
	a := []api.Placed{{Path: "/a", Bytes: "x"}, {Path: "/d", Dir: true}}
	for _, x := range []struct {
		a, b []api.Placed
		want bool
	}{
		{nil, nil, true},
		{nil, []api.Placed{}, true},
		{a, slices.Clone(a), true},
		{a, nil, false},
		{a, a[:1], false},
		{a[:1], a, false},
		{a, []api.Placed{a[1], a[0]}, false},
		{a, []api.Placed{{Path: "/a", Bytes: "y"}, a[1]}, false},
		{a, []api.Placed{{Path: "/b", Bytes: "x"}, a[1]}, false},
		{a, []api.Placed{a[0], {Path: "/d"}}, false},
	} {
		if got := lin.Same(x.a, x.b); got != x.want {
			t.Errorf("%v %v: %v", x.a, x.b, got)
		}
	}
}

// Example 1 of the chapter.
func TestLifeWithoutEvents(t *testing.T) {
	tree := does(t)
	l := recorded(t, tree)
	explains(t, tree, l, true, 0)
	if found := lin.Found(tree, l); !reflect.DeepEqual(found, [][]api.Placed{tree}) {
		t.Error(found)
	}
}

func TestLife(t *testing.T) {
	tree := does(t, makeA, makeA, say)
	whole := recorded(t, tree, 0, -api.EEXIST, 2, 0)
	if len(whole.Events) != 17 || whole.Output != "/a" || len(whole.Threads) != 0 {
		t.Fatalf("%+v", whole)
	}
	explains(t, tree, whole, true, 0)
	part := recorded(t, tree, 0)
	explains(t, tree, part, true, 0)
	last := len(part.Events)

	for at := range part.Events {
		for _, e := range []api.Event{
			{Kind: api.EvInsn, Who: 2}, {Kind: api.EvKill, Who: 1, Result: -1}, {Kind: 0, Who: 1}, {Kind: 9}, {Kind: api.EvCall, Who: 1, Call: api.CallFork, Result: 2}, {Kind: api.EvSleep, Who: 1, Call: api.CallFwait},
		} {
			x := part
			x.Events = slices.Clone(part.Events)
			e.Step = part.Events[at].Step
			x.Events[at] = e
			explains(t, tree, x, false, at)
		}
	}
	for _, step := range []int{-1, last, last + 1, 1 << 62, -1 << 62} {
		x := part
		x.Events = slices.Clone(part.Events)
		x.Events[last-1].Step = step
		explains(t, tree, x, false, last-1)
		x.Events[last-1].Step = last - 1
		x.Events[0].Step = step
		if step < 0 || step >= x.Steps {
			explains(t, tree, x, false, 0)
		}
	}
	x := part
	x.Events = slices.Clone(part.Events)
	x.Events[1].Step = 2
	x.Events[2].Step = 2
	explains(t, tree, x, true, 0) // several in a step
	x.Events[2].Step = 1
	explains(t, tree, x, false, 2)
	x = part
	x.Steps = last - 1
	explains(t, tree, x, false, last-1)
	x.Steps = 0
	explains(t, tree, x, false, 0)
	x.Steps = -5
	explains(t, tree, x, false, 0)
	x.Steps = last + 100
	explains(t, tree, x, true, 0)
}

// turned is a life of which something was turned.
func TestLifeOfWhichSomethingWasTurned(t *testing.T) {
	tree := does(t, makeA, say)
	l := recorded(t, tree, 0, 2)
	n := len(l.Events)
	for at, turn := range []func(*api.Lived){
		func(x *api.Lived) { x.Output = "" },
		func(x *api.Lived) { x.Output = "/b" },
		func(x *api.Lived) { x.Output += "a" },
		func(x *api.Lived) { x.Procs = nil },
		func(x *api.Lived) { x.Procs[0].Parent = 1 },
		func(x *api.Lived) { x.Procs[0].Zombie = true },
		func(x *api.Lived) { x.Procs[0].Code = 1 },
		func(x *api.Lived) { x.Procs = append(x.Procs, api.Process{Pid: 2}) },
		func(x *api.Lived) { x.Threads = nil },
		func(x *api.Lived) { x.Threads[0].Cpu.PC += 4 },
		func(x *api.Lived) { x.Threads[0].Cpu.R[15]++ },
		func(x *api.Lived) { x.Threads[0].State++ },
		func(x *api.Lived) { x.Threads[0].Pid++ },
		func(x *api.Lived) { x.Threads = append(x.Threads, x.Threads[0]) },
	} {
		x := l
		x.Procs, x.Threads = slices.Clone(l.Procs), slices.Clone(l.Threads)
		turn(&x)
		if ok, got := lin.Life(tree, x); ok || got != n {
			t.Errorf("%d: %v %d", at, ok, got)
		}
		if found := lin.Found(tree, x); len(found) != 0 {
			t.Error(at, found)
		}
	}
	// What a life tells beside that is nobody's: the heap, the harts.
	x := l
	x.Heap, x.Events = 77, slices.Clone(l.Events)
	x.Events[0].Hart = 5
	explains(t, tree, x, true, 0)
	explains(t, tree, l, true, 0)
}

func TestLifeFromAnotherTree(t *testing.T) {
	tree := does(t, makeA)
	l := recorded(t, tree, 0)
	other := with(tree, api.Placed{Path: "/c"})
	explains(t, other, l, false, 0)
	explains(t, nil, l, false, 0)
	x := l
	x.Tree = other
	explains(t, tree, x, false, 0)
	explains(t, other, x, true, 0) // such a program does not see it
	x = l
	x.Tree = nil
	explains(t, nil, x, false, 0)
	for _, boot := range []api.Errno{api.ErrKernel, api.ErrFull, api.ErrArg, 99} {
		x := l
		x.Boot = boot
		if ok, at := lin.Life(tree, x); ok || at != 0 {
			t.Error(boot, ok, at)
		}
		found := lin.Found(tree, x)
		if !reflect.DeepEqual(found, [][]api.Placed{tree}) {
			t.Error(boot, found)
		}
		// What is told shares nothing with what was handed in.
		clear(found[0])
		if tree[0].Path != "/init" {
			t.Fatal("the tree has changed")
		}
	}
	// Trees that may not be, though they are the same.
	for _, tree := range [][]api.Placed{{{Path: "/init", Bytes: "no"}}, {{Path: "/x/init"}}} {
		explains(t, tree, api.Lived{Tree: tree}, false, 0)
	}
	// A tree in another order is one, too, but it is found as one walks.
	tree = []api.Placed{{Path: "/z"}, tree[0]}
	w := newRecorder(t, tree)
	x = w.lived()
	explains(t, tree, x, true, 0)
	if found := lin.Found(tree, x); !reflect.DeepEqual(found, [][]api.Placed{{tree[1], tree[0]}}) {
		t.Error(found)
	}
}

func TestFound(t *testing.T) {
	a, b := api.Placed{Path: "/a", Dir: true}, api.Placed{Path: "/b", Dir: true}
	file := func(path, bytes string) api.Placed { return api.Placed{Path: path, Bytes: bytes} }
	for i, x := range []struct {
		what    []string
		results []int32
		want    [][]api.Placed // beside /init
	}{
		{[]string{makeA}, []int32{0}, [][]api.Placed{{}, {a}}},
		{[]string{makeA, makeB}, []int32{0, 0}, [][]api.Placed{{}, {a}, {a, b}}},
		{[]string{makeA, unmakeA}, []int32{0, 0}, [][]api.Placed{{}, {a}}}, // that was there already
		{[]string{makeA, sync}, []int32{0, 0}, [][]api.Placed{{a}}},
		{[]string{makeA, sync, unmakeA, makeB}, []int32{0, 0, 0, 0}, [][]api.Placed{{a}, {}, {b}}},
		{[]string{makeA, sync, unmakeA, sync, makeB}, []int32{0, 0, 0, 0, 0}, [][]api.Placed{{}, {b}}},
		{[]string{makeA, sync, unmakeA, makeA}, []int32{0, -12, 0, 0}, [][]api.Placed{{}, {a}}}, // nothing lasts
		{[]string{makeA, sync, unmakeA, sync}, []int32{0, 0, 0, -12}, [][]api.Placed{{a}, {}}},
		{[]string{makeA, aToB}, []int32{0, 0}, [][]api.Placed{{}, {a}, {b}}},
		{[]string{openA, writeIt, writeIt}, []int32{2, 2, 2}, [][]api.Placed{{}, {file("/a", "")}, {file("/a", "/a")}, {file("/a", "/a/a")}}},
		{[]string{openA, writeIt, openA}, []int32{2, 2, 3}, [][]api.Placed{{}, {file("/a", "")}, {file("/a", "/a")}}},
		{[]string{openA, linkB, writeIt, unmakeA}, []int32{2, 0, 2, 0}, [][]api.Placed{{}, {file("/a", "")}, {file("/a", ""), file("/b", "")}, {file("/a", "/a"), file("/b", "/a")}, {file("/b", "/a")}}},
		{[]string{makeA, makeA, say}, []int32{-28, -12, 2}, [][]api.Placed{{}}},
		{[]string{sync, makeA}, []int32{0, 0, 0}, [][]api.Placed{{}, {a}}}, // and it exits
	} {
		tree := does(t, x.what...)
		l := recorded(t, tree, x.results...)
		var want [][]api.Placed
		for _, more := range x.want {
			want = append(want, with(tree, more...))
		}
		found := lin.Found(tree, l)
		if !reflect.DeepEqual(found, want) {
			t.Errorf("%d: %v", i, found)
			continue
		}
		for _, l := range found {
			clear(l[:cap(l)])
		}
		if again := lin.Found(tree, l); !reflect.DeepEqual(again, want) {
			t.Error(i, "told otherwise")
		}
		explains(t, tree, l, true, 0)
	}
}

// What an event's kind does not name is not looked at.
func TestFieldsThatNobodyNames(t *testing.T) {
	tree := does(t, makeA, makeB)
	l := recorded(t, tree, 0, 0)
	for at, e := range l.Events {
		if e.Kind == api.EvInsn {
			l.Events[at].Call = api.CallSync
		}
	}
	if found := lin.Found(tree, l); len(found) != 3 {
		t.Error(found)
	}
}
