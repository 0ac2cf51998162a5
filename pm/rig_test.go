package pm_test

import (
	"bytes"
	"reflect"
	"slices"
	"testing"

	"parapet/api"
	"parapet/asm"
	"parapet/image"
	"parapet/pm"
)

// obey is a program that reads calls from the console, sixteen bytes each, and makes them.
const obey = `
loop: li r1, 15
li r2, 0
li r3, 192
li r4, 16
sys
li r5, 192
lw r1, 0(r5)
lw r2, 4(r5)
lw r3, 8(r5)
lw r4, 12(r5)
sys
jal r6, loop`

const (
	order = 192   // where obey reads a call
	data  = 0x300 // 0x300 to 0x7ff is there, and is zeros
	dead  = 0x800 // nothing is there, nor behind
	texts = 0x100 // where paths lie: 0x100 to 0x2ff
)

// assembled is a program's bytes.
func assembled(t *testing.T, text string) []byte {
	t.Helper()
	b, e, line := asm.Assemble(text, 0)
	if e != api.OK {
		t.Fatal("Assemble", e, line)
	}
	return b
}

// imaged is the bytes of an image that may be.
func imaged(t *testing.T, x api.Image) string {
	t.Helper()
	b, e := image.Make(x)
	if e != api.OK {
		t.Fatal("image.Make", e)
	}
	return string(b)
}

// obeying is the image of obey.
func obeying(t *testing.T) string {
	t.Helper()
	return imaged(t, api.Image{
		Segments: []api.Segment{{Addr: 0, Bytes: assembled(t, obey)}, {Addr: texts, Bytes: make([]byte, 0x200)}},
		Zero:     []api.Region{{First: data >> 8, Count: (dead - data) >> 8}},
	})
}

// program is a file of a program, all of whose pages are one segment, and two of zeros behind it.
func program(t *testing.T, text string) []api.Placed {
	t.Helper()
	b := assembled(t, text)
	pages := (len(b) + 255) / 256
	return []api.Placed{{Path: "/init", Bytes: imaged(t, api.Image{Segments: []api.Segment{{Bytes: b}}, Zero: []api.Region{{First: pages, Count: 2}}})}}
}

// rig is a world that is played.
type rig struct {
	*testing.T
	w *pm.World
}

// rigged is a world of some files.
func rigged(t *testing.T, files []api.Placed) *rig {
	t.Helper()
	w, e := pm.New(files)
	if e != api.OK {
		t.Fatal("New", e)
	}
	return &rig{t, w}
}

// obeys is a world whose /init obeys, and other files.
func obeys(t *testing.T, files ...api.Placed) *rig {
	t.Helper()
	return rigged(t, append([]api.Placed{{Path: "/init", Bytes: obeying(t)}}, files...))
}

// does holds that an event can be.
func (r *rig) does(e api.Event) {
	r.Helper()
	if got := r.w.Do(e); got != api.OK {
		r.Fatalf("Do(%+v): %v", e, got)
	}
}

// refuses holds that an event can't be, and that nothing changes.
func (r *rig) refuses(e api.Event) {
	r.Helper()
	was := r.w.Fork()
	if got := r.w.Do(e); got != api.ErrEvent {
		r.Fatalf("Do(%+v): %v", e, got)
	}
	if !reflect.DeepEqual(was, r.w) {
		r.Fatalf("Do(%+v): something has changed", e)
	}
}

func (r *rig) types(s string) {
	r.Helper()
	r.does(api.Event{Kind: api.EvInput, Bytes: s})
}

func (r *rig) steps(tid, times int) {
	r.Helper()
	for range times {
		r.does(api.Event{Kind: api.EvInsn, Who: tid})
	}
}

// thread is a thread that is there.
func (r *rig) thread(tid int) api.Running {
	r.Helper()
	for _, t := range r.w.Threads() {
		if t.Tid == tid {
			return t
		}
	}
	r.Fatal("no thread", tid)
	return api.Running{}
}

func (r *rig) tids() []int {
	var l []int
	for _, t := range r.w.Threads() {
		l = append(l, t.Tid)
	}
	return l
}

// state holds a thread's state.
func (r *rig) state(tid, want int) {
	r.Helper()
	if got := r.thread(tid).State; got != want {
		r.Fatalf("thread %d: state %d, not %d", tid, got, want)
	}
}

// process holds a process as it is told.
func (r *rig) process(want api.Process) {
	r.Helper()
	if !slices.Contains(r.w.Procs(), want) {
		r.Fatalf("processes %+v, none of them %+v", r.w.Procs(), want)
	}
}

func (r *rig) pids() []int {
	var l []int
	for _, p := range r.w.Procs() {
		l = append(l, p.Pid)
	}
	return l
}

// runs lets a thread go on till it is in a call.
func (r *rig) runs(tid int) {
	r.Helper()
	for range 100 {
		if r.thread(tid).State == api.ThreadCall {
			return
		}
		r.steps(tid, 1)
	}
	r.Fatal("no call of thread", tid)
}

func word(x uint32) []byte {
	return []byte{byte(x), byte(x >> 8), byte(x >> 16), byte(x >> 24)}
}

// asks lets a thread that obeys make a call.
func (r *rig) asks(tid int, call, a, b, c uint32) {
	r.Helper()
	r.runs(tid)
	if n, args, ok := r.w.Asks(tid); n != api.CallRead || args != [3]uint32{0, order, 16} || !ok {
		r.Fatal("thread", tid, "does not obey:", n, args, ok)
	}
	r.types(string(slices.Concat(word(call), word(a), word(b), word(c))))
	r.does(api.Event{Kind: api.EvCall, Who: tid, Call: api.CallRead, Result: 16})
	r.runs(tid)
	cpu := r.thread(tid).Cpu
	if [4]uint32(cpu.R[1:]) != [4]uint32{call, a, b, c} {
		r.Fatal("thread", tid, "asks for", cpu)
	}
}

// errnos is all that a call may be told below 0.
var errnos = []int32{2, 3, 8, 9, 10, 11, 12, 14, 16, 17, 20, 21, 22, 23, 24, 27, 28, 31, 32, 36, 38, 39}

// besides tells whether an errno is marked, in the table of calls.
func besides(call uint32, errno int32) bool {
	marked := []uint32{2, 3, 6, 7, 9, 11, 12, 13, 15, 16, 18, 19, 20, 21, 22, 24, 25, 30}
	if errno == 28 {
		marked = []uint32{13, 16, 19, 20, 21, 22}
	}
	return (errno == 12 || errno == 28) && slices.Contains(marked, call)
}

// only holds that a thread in a call can be told one result (as if at the end of what is told in vain), and what is marked; none: nothing else.
func (r *rig) only(tid int, want int32, none bool) {
	r.Helper()
	n, _, ok := r.w.Asks(tid)
	if !ok {
		r.Fatal("no call of", tid)
	}
	l := []int32{want - 1, want + 1, want + 2, -want, 0, 1, 2, 3, 16, 256, -1, -9, 1<<31 - 1, -1 << 31}
	for _, x := range errnos {
		l = append(l, -x)
	}
	for _, result := range l {
		e := api.Event{Kind: api.EvCall, Who: tid, Call: n, Result: result}
		switch {
		case besides(uint32(n), -result) && (none || result != want):
			r.apart(func(x *rig) {
				x.does(e)
				x.resulted(r, tid, result)
			})
		case none || result != want:
			r.refuses(e)
		}
	}
}

// apart lets something be done to another world that is the same.
func (r *rig) apart(do func(x *rig)) {
	r.Helper()
	do(&rig{r.T, r.w.Fork()})
}

// resulted holds that nothing has changed since was, but that a thread was told a result.
func (r *rig) resulted(was *rig, tid int, result int32) {
	r.Helper()
	l := was.w.Threads()
	at := slices.IndexFunc(l, func(t api.Running) bool { return t.Tid == tid })
	l[at].State = api.ThreadUser
	l[at].Cpu.R[1] = uint32(result)
	if !slices.Equal(l, r.w.Threads()) {
		r.Fatal("threads", r.w.Threads(), "not", l)
	}
	if !slices.Equal(was.w.Procs(), r.w.Procs()) || !slices.Equal(was.w.Tree(), r.w.Tree()) || was.w.Output() != r.w.Output() {
		r.Fatal("something else has changed")
	}
	for _, p := range r.w.Procs() {
		if !bytes.Equal(was.memory(p.Pid), r.memory(p.Pid)) {
			r.Fatal("memory of", p.Pid)
		}
	}
}

// told holds that a thread in a call is told a result, and goes on with it.
func (r *rig) told(tid int, want int32) {
	r.Helper()
	r.only(tid, want, false)
	cpu := r.thread(tid).Cpu
	r.does(api.Event{Kind: api.EvCall, Who: tid, Call: int(cpu.R[1]), Result: want})
	cpu.R[1] = uint32(want)
	if got := r.thread(tid); got.Cpu != cpu || got.State != api.ThreadUser {
		r.Fatalf("behind its call: %+v, not %+v", got, cpu)
	}
}

// calls lets a thread that obeys make a call, and holds what it is told.
func (r *rig) calls(tid int, want int32, call uint32, args ...uint32) {
	r.Helper()
	args = append(args, 0, 0, 0)
	r.asks(tid, call, args[0], args[1], args[2])
	r.told(tid, want)
}

// blocks lets a thread that obeys make a call that can't be told anything (but what is marked).
func (r *rig) blocks(tid int, call uint32, args ...uint32) {
	r.Helper()
	args = append(args, 0, 0, 0)
	r.asks(tid, call, args[0], args[1], args[2])
	r.waits(tid)
}

// waits holds that a thread's call can't be told anything.
func (r *rig) waits(tid int) {
	r.Helper()
	r.only(tid, 0, true)
}

// ends lets a thread that obeys make a call that does not return.
func (r *rig) ends(tid int, call uint32, args ...uint32) {
	r.Helper()
	args = append(args, 0, 0, 0)
	r.asks(tid, call, args[0], args[1], args[2])
	r.only(tid, 0, false)
	r.does(api.Event{Kind: api.EvCall, Who: tid, Call: int(call)})
}

// forks lets a thread make a process, whose thread is the next one.
func (r *rig) forks(tid, pid int) {
	r.Helper()
	r.calls(tid, int32(pid), api.CallFork)
}

// puts lets a thread have bytes in its memory, at most 1024.
func (r *rig) puts(tid int, at uint32, b string) {
	r.Helper()
	r.asks(tid, api.CallRead, 0, at, uint32(len(b)))
	r.types(b)
	r.does(api.Event{Kind: api.EvCall, Who: tid, Call: api.CallRead, Result: int32(len(b))})
}

// path lets a thread have a path in its memory: where.
func (r *rig) path(tid int, s string) uint32 {
	r.Helper()
	r.puts(tid, texts, s+"\x00")
	return texts
}

// other is a second path's place.
func (r *rig) other(tid int, s string) uint32 {
	r.Helper()
	r.puts(tid, texts+0x100, s+"\x00")
	return texts + 0x100
}

// memory is all pages of a process: of each a byte that tells whether it is there, and its bytes.
func (r *rig) memory(pid int) []byte {
	var l []byte
	for n := range api.Pages {
		b, ok := r.w.Page(pid, n)
		if ok {
			l = append(append(l, 1), b...)
		} else {
			l = append(l, 0)
		}
	}
	return l
}

// holds holds bytes of a process.
func (r *rig) holds(pid int, at uint32, want string) {
	r.Helper()
	var got []byte
	for i := range len(want) {
		x := int(at) + i
		b, ok := r.w.Page(pid, x/256)
		if !ok {
			r.Fatalf("process %d: nothing at %d", pid, x)
		}
		got = append(got, b[x%256])
	}
	if string(got) != want {
		r.Fatalf("process %d at %d: %q, not %q", pid, at, got, want)
	}
}

// tree holds all files and directories but /init, given as path, bytes; a directory's path ends with a slash.
func (r *rig) tree(want ...string) {
	r.Helper()
	var l []api.Placed
	for i := 0; i < len(want); i += 2 {
		path := want[i]
		dir := path[len(path)-1] == '/'
		if dir {
			path = path[:len(path)-1]
		}
		l = append(l, api.Placed{Path: path, Dir: dir, Bytes: want[i+1]})
	}
	got := slices.DeleteFunc(r.w.Tree(), func(x api.Placed) bool { return x.Path == "/init" })
	if !slices.Equal(got, l) {
		r.Fatalf("tree %+v, not %+v", got, l)
	}
}

// sleeps lets a thread that obeys go to sleep at a word.
func (r *rig) sleeps(tid int, at, value uint32) {
	r.Helper()
	r.blocks(tid, api.CallFwait, at, value)
	cpu := r.thread(tid).Cpu
	r.does(api.Event{Kind: api.EvSleep, Who: tid, Call: api.CallFwait})
	if x := r.thread(tid); x.State != api.ThreadSleep || x.Cpu != cpu {
		r.Fatal("asleep", x)
	}
}

// awakes holds that a thread that was woken is told 0, and nothing else.
func (r *rig) awakes(tid int) {
	r.Helper()
	cpu := r.thread(tid).Cpu
	if n, args, ok := r.w.Asks(tid); n != api.CallFwait || args != [3]uint32(cpu.R[2:]) || !ok {
		r.Fatal("woken", n, args, ok)
	}
	for x := int32(-40); x < 10; x++ {
		if x != 0 {
			r.refuses(api.Event{Kind: api.EvCall, Who: tid, Call: api.CallFwait, Result: x})
		}
	}
	r.refuses(api.Event{Kind: api.EvSleep, Who: tid, Call: api.CallFwait})
	r.does(api.Event{Kind: api.EvCall, Who: tid, Call: api.CallFwait})
	cpu.R[1] = 0
	if got := r.thread(tid); got.Cpu != cpu || got.State != api.ThreadUser {
		r.Fatalf("behind its sleep: %+v, not %+v", got, cpu)
	}
}
