package pm_test

import (
	"fmt"
	"math"
	"reflect"
	"slices"
	"strings"
	"testing"

	"parapet/api"
	"parapet/pm"
)

// P25.1

func newRefuses(t *testing.T, what string, files []api.Placed, want api.Errno) {
	t.Helper()
	was := slices.Clone(files)
	if w, e := pm.New(files); w != nil || e != want {
		t.Errorf("%s: %v %v, not %v", what, w, e, want)
	}
	if !slices.Equal(files, was) {
		t.Error(what, "has changed")
	}
}

func TestNewRefuses(t *testing.T) {
	init := api.Placed{Path: "/init", Bytes: obeying(t)}
	dir := api.Placed{Path: "/d", Dir: true}
	long := strings.Repeat("/a234567890", 6)[:64]
	for what, l := range map[string][]api.Placed{
		"an empty path":                {init, {Path: ""}},
		"no slash ahead":               {init, {Path: "a"}},
		"the root":                     {init, {Path: "/", Dir: true}},
		"the root, twice slashed":      {init, {Path: "//"}},
		"a path of 65 bytes":           {init, {Path: long + "/"}},
		"a byte 0":                     {init, {Path: "/a\x00b"}},
		"a name of 15 bytes":           {init, {Path: "/abcdefghijklmno"}},
		"bytes beside Dir":             {init, {Path: "/d", Dir: true, Bytes: "x"}},
		"too many bytes":               {init, {Path: "/a", Bytes: strings.Repeat("x", 16385)}},
		"ahead of its directory":       {init, {Path: "/d/a"}, dir},
		"in a directory that is none":  {init, {Path: "/d/a"}},
		"in a file":                    {init, {Path: "/d"}, {Path: "/d/a"}},
		"below a file":                 {init, {Path: "/init/a/b"}},
		"a file twice":                 {init, {Path: "/a"}, {Path: "/a"}},
		"a directory twice":            {init, dir, dir},
		"a file, then a directory":     {init, {Path: "/d"}, dir},
		"a directory, then a file":     {init, dir, {Path: "//d/"}},
		"twice below":                  {init, dir, {Path: "/d/a"}, {Path: "//d//a/"}},
		"/init twice":                  {init, init},
		"no init, and something wrong": {{Path: "/a"}, {Path: "/a"}},
		"no image, and something more": {{Path: "/init", Bytes: "x"}, {Path: "a"}},
	} {
		newRefuses(t, what, l, api.ErrArg)
	}
	deep := []api.Placed{init}
	for i := range 33 {
		deep = append(deep, api.Placed{Path: strings.Repeat("/a", i+1)[:min(2*i+2, 64)], Dir: true})
	}
	if _, e := pm.New(deep[:33]); e != api.OK {
		t.Error("32 directories in one another", e)
	}
	newRefuses(t, "33 of them", append(deep[:33], api.Placed{Path: strings.Repeat("/a", 33)}), api.ErrArg)
}

func TestNewWithoutImage(t *testing.T) {
	good := obeying(t)
	for what, l := range map[string][]api.Placed{
		"nothing":         nil,
		"no init":         {{Path: "/Init", Bytes: good}, {Path: "/d", Dir: true}, {Path: "/d/init", Bytes: good}},
		"no bytes":        {{Path: "/init"}},
		"a directory":     {{Path: "/init", Dir: true}},
		"other bytes":     {{Path: "/init", Bytes: "#!/bin/sh\n"}},
		"a byte too few":  {{Path: "/init", Bytes: good[:len(good)-1]}},
		"a byte too many": {{Path: "/init", Bytes: good + "\x00"}},
	} {
		newRefuses(t, what, l, api.ErrImage)
	}
}

func TestNewOfMany(t *testing.T) {
	l := []api.Placed{{Path: "/init", Bytes: obeying(t)}}
	for i := range 512 {
		l = append(l, api.Placed{Path: fmt.Sprint("/f", i)})
	}
	w, e := pm.New(l[:512])
	if e != api.OK || len(w.Tree()) != 512 {
		t.Error("512 of them", e)
	}
	newRefuses(t, "513 of them", l, api.ErrArg)
	newRefuses(t, "513 without /init", l[1:], api.ErrImage)
	newRefuses(t, "514 without /init", append(l[1:], api.Placed{Path: "/z"}), api.ErrArg)
}

// P25.1, P25.3: the world at first.
func TestNew(t *testing.T) {
	x := api.Image{
		Entry:    260,
		Segments: []api.Segment{{Addr: 0x100, Bytes: []byte(strings.Repeat("ab", 129))}, {Addr: 0x7f00, Bytes: []byte("last")}, {Addr: 0x1000, Bytes: []byte(strings.Repeat("cd", 256))}, {Addr: 0x2000, Bytes: []byte(strings.Repeat("e", 255))}},
		Zero:     []api.Region{{First: 4, Count: 2}, {First: 3, Count: 1}},
	}
	r := rigged(t, []api.Placed{
		{Path: "//z/", Dir: true}, {Path: "/a.b", Bytes: "2"}, {Path: "/z//b", Dir: true}, {Path: "/init/", Bytes: imaged(t, x)}, {Path: "/a", Dir: true},
		{Path: "/z/a", Bytes: strings.Repeat("y", 16384)}, {Path: "/a/z", Bytes: "1"}, {Path: "/z/b/\xff"},
	})
	r.tree("/a/", "", "/a/z", "1", "/a.b", "2", "/z/", "", "/z/a", strings.Repeat("y", 16384), "/z/b/", "", "/z/b/\xff", "")
	if l := r.w.Procs(); !slices.Equal(l, []api.Process{{Pid: 1}}) {
		t.Error("Procs", l)
	}
	if l := r.w.Threads(); !slices.Equal(l, []api.Running{{Tid: 1, Pid: 1, Cpu: api.Cpu{PC: 260}, State: api.ThreadUser}}) {
		t.Error("Threads", l)
	}
	want := map[int]string{1: strings.Repeat("ab", 128), 2: "ab", 3: "", 4: "", 5: "", 16: strings.Repeat("cd", 128), 17: strings.Repeat("cd", 128), 32: strings.Repeat("e", 255), 127: "last"}
	for n := -1; n <= 256; n++ {
		s, there := want[n]
		b, ok := r.w.Page(1, n)
		if ok != there || there && string(b) != s+strings.Repeat("\x00", 256-len(s)) || !there && b != nil {
			t.Error("page", n, b, ok)
		}
	}
	if r.w.Halted() || r.w.Output() != "" {
		t.Error("Halted, Output", r.w.Output())
	}
}

// P25.3

func TestNil(t *testing.T) {
	for _, w := range []*pm.World{nil, {}} {
		for kind := range 8 {
			if e := w.Do(api.Event{Kind: kind, Who: 1}); e != api.ErrClosed {
				t.Error("Do", e)
			}
		}
		b, ok := w.Page(1, 0)
		n, args, asks := w.Asks(1)
		if w.Halted() || w.Procs() != nil || w.Threads() != nil || b != nil || ok || w.Tree() != nil || w.Output() != "" || n != 0 || args != [3]uint32{} || asks || w.Fork() != nil {
			t.Error("of a World that no call made")
		}
	}
}

func TestOfNobody(t *testing.T) {
	r := obeys(t)
	for _, n := range []int{0, -1, 2, math.MinInt, math.MaxInt} {
		if b, ok := r.w.Page(n, 0); b != nil || ok {
			t.Error("Page of process", n)
		}
		if c, args, ok := r.w.Asks(n); c != 0 || args != [3]uint32{} || ok {
			t.Error("Asks of thread", n)
		}
	}
	for _, n := range []int{-1, 8, 255, 256, math.MinInt, math.MaxInt} {
		if b, ok := r.w.Page(1, n); b != nil || ok {
			t.Error("Page", n)
		}
	}
}

func TestAsks(t *testing.T) {
	r := obeys(t)
	if _, _, ok := r.w.Asks(1); ok {
		t.Error("in user mode")
	}
	for _, x := range []struct {
		reg  uint32
		call int
	}{{2, 2}, {0, 0}, {99, 99}, {1<<31 - 1, 1<<31 - 1}, {1 << 31, 0}, {1<<32 - 1, 0}} {
		r.asks(1, x.reg, 7, 1<<32-1, 9)
		if n, args, ok := r.w.Asks(1); n != x.call || args != [3]uint32{7, 1<<32 - 1, 9} || !ok {
			t.Error("Asks", n, args, ok, "not", x.call)
		}
		r.does(api.Event{Kind: api.EvCall, Who: 1, Call: x.call, Result: map[bool]int32{true: 2, false: -38}[x.call == 2]})
	}
}

// What is answered is the caller's.
func TestAnswersAreNew(t *testing.T) {
	r := obeys(t, api.Placed{Path: "/a", Bytes: "x"})
	was := r.w.Fork()
	clear(r.w.Procs())
	clear(r.w.Threads())
	clear(r.w.Tree())
	b, _ := r.w.Page(1, 0)
	clear(b)
	if !reflect.DeepEqual(was, r.w) || b[0] != 0 {
		t.Error("what was answered is kept")
	}
	if b, _ := r.w.Page(1, 0); len(b) != 256 || cap(b) != 256 && slices.ContainsFunc(b[256:cap(b)], func(x byte) bool { return x != 0 }) {
		t.Error("spare room", len(b), cap(b))
	}
}

// busy is a world in which something of all kinds is: of process 1 thread 1 in user mode, 3 asleep, 4 woken, 5 ended; process 2, whose thread 2 waits for the zombie 3.
func busy(t *testing.T) *rig {
	r := obeys(t, api.Placed{Path: "/d", Dir: true}, api.Placed{Path: "/d/a", Bytes: "abc"})
	r.calls(1, 0, api.CallPipe, data)
	r.puts(1, data+16, "on its way")
	r.calls(1, 10, api.CallWrite, 3, data+16, 10)
	r.calls(1, 4, api.CallOpen, r.path(1, "/d/a"), 0)
	r.calls(1, 1, api.CallRead, 4, data+32, 1)
	r.calls(1, 5, api.CallOpen, r.path(1, "/gone"), 1)
	r.calls(1, 0, api.CallUnlink, r.path(1, "/gone"))
	r.calls(1, 5, api.CallWrite, 1, data+16, 5)
	r.forks(1, 2)
	for tid := range 3 {
		r.calls(1, int32(3+tid), api.CallSpawn, 0, 0, 0)
	}
	for _, tid := range []int{4, 3} {
		r.sleeps(tid, data+64, 0)
	}
	r.calls(1, 1, api.CallFwake, data+64, 1)
	r.ends(5, api.CallTexit, 9)
	r.forks(2, 3)
	r.ends(6, api.CallExit, 5)
	r.asks(2, api.CallWait, data, 0, 0)
	return r
}

// through lets a busy world go on, and holds what comes of it.
func through(r *rig) {
	r.told(2, 3)
	r.holds(2, data, "\x05")
	r.awakes(4)
	r.calls(1, 10, api.CallRead, 2, data+128, 99)
	r.holds(1, data+128, "on its way")
	r.calls(1, 2, api.CallRead, 4, data+128, 99)
	r.calls(1, 0, api.CallSeek, 5, 0)
	r.calls(1, 3, api.CallWrite, 5, data+128, 3)
	r.calls(1, 3, api.CallSize, 5)
	r.calls(1, 9, api.CallJoin, 5)
	r.calls(1, 1, api.CallFwake, data+64, 9)
	r.awakes(3)
	r.calls(1, 5, api.CallWrite, 1, data+16, 5)
	r.calls(1, 0, api.CallMkdir, r.path(1, "/d/b"))
	r.tree("/d/", "", "/d/a", "abc", "/d/b/", "")
	if s := r.w.Output(); s != "on iton it" {
		r.Error("Output", s)
	}
	r.ends(1, api.CallKill, 1)
	if !r.w.Halted() {
		r.Error("the world goes on")
	}
}

// P25.3: what is done to the one is not done to the other.
func TestFork(t *testing.T) {
	r := busy(t)
	x, y := &rig{t, r.w.Fork()}, &rig{t, r.w.Fork()}
	if !reflect.DeepEqual(x.w, r.w) {
		t.Fatal("a fork that is not the same")
	}
	through(x)
	if !reflect.DeepEqual(y.w, r.w) {
		t.Fatal("the one has changed by the other")
	}
	through(r)
	if !reflect.DeepEqual(x.w, r.w) {
		t.Error("the same events make different worlds")
	}
	through(&rig{t, y.w.Fork()})
	through(y)
}

// What was typed is the other one's, too, and that no more comes.
func TestForkOfInput(t *testing.T) {
	r := obeys(t)
	r.asks(1, api.CallRead, 0, data, 2)
	r.types("abc")
	x := &rig{t, r.w.Fork()}
	x.does(api.Event{Kind: api.EvEnd})
	y := &rig{t, x.w.Fork()}
	for _, z := range []*rig{y, x, r} {
		z.told(1, 2)
		z.holds(1, data, "ab\x00")
		z.runs(1)
	}
	r.types("d")
	r.told(1, 2)
	r.holds(1, order, "cd")
	for _, z := range []*rig{x, y} {
		z.refuses(api.Event{Kind: api.EvInput, Bytes: "d"})
		z.told(1, 1)
		z.steps(1, 6)
		z.told(1, -38)
		z.runs(1)
		z.told(1, 0)
	}
}

// P25.5: nothing of a world is another one's.
func TestWorldsAreApart(t *testing.T) {
	files := []api.Placed{{Path: "/init", Bytes: obeying(t)}}
	x, y := rigged(t, files), rigged(t, files)
	x.puts(1, data, "mine")
	x.calls(1, 2, api.CallOpen, x.path(1, "/a"), 1)
	y.holds(1, data, "\x00\x00\x00\x00")
	y.tree()
}
