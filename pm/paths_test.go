package pm_test

import (
	"strings"
	"testing"

	"parapet/api"
)

// P25.2: calls of names, by the table of calls.

// branches is a tree with something of all kinds.
func branches(t *testing.T) *rig {
	return obeys(t, api.Placed{Path: "/d", Dir: true}, api.Placed{Path: "/d/e", Dir: true}, api.Placed{Path: "/d/a", Bytes: "in d"},
		api.Placed{Path: "/e", Dir: true}, api.Placed{Path: "/f", Bytes: "a file"}, api.Placed{Path: "/g", Bytes: "another"})
}

// withPaths is the calls whose a is a path.
var withPaths = []uint32{api.CallOpen, api.CallMkdir, api.CallUnlink, api.CallLink, api.CallRename, api.CallExec}

// Of all calls that name paths, the same is told of bytes that are none.
func TestPaths(t *testing.T) {
	r := branches(t)
	r.puts(1, dead-64, "/"+strings.Repeat("/", 63))
	r.puts(1, dead-256, "/"+strings.Repeat("/a", 32)+"\x00") // 65 bytes
	r.puts(1, texts, "/f\x00")
	far := "/" + strings.Repeat("x", 64)
	for _, call := range withPaths {
		for _, at := range []uint32{dead, 1 << 16, 1<<16 + texts, 1<<32 - 1, dead - 64, dead - 1} {
			r.calls(1, -api.EFAULT, call, at, 1)
		}
		r.calls(1, -api.ENAMETOOLONG, call, dead-256, 1)
		r.puts(1, dead-65, far) // the 65th byte is the last one that is there
		r.calls(1, -api.ENAMETOOLONG, call, dead-65, 1)
		r.calls(1, -api.EFAULT, call, dead-64, 1)
		r.puts(1, dead-65, "/"+strings.Repeat("/", 63))
		for _, s := range []string{"", "f", "d/a", " /f", "/abcdefghijklmno", "/f/abcdefghijklmno", strings.Repeat("a", 64)} {
			r.calls(1, -api.EINVAL, call, r.path(1, s), 1)
		}
	}
	// The root is what 64 slashes name, too.
	for _, s := range []string{"/", "//", strings.Repeat("/", 64)} {
		at := r.path(1, s)
		r.calls(1, -api.EISDIR, api.CallOpen, at, 1)
		r.calls(1, -api.EEXIST, api.CallMkdir, at)
		r.calls(1, -api.EBUSY, api.CallUnlink, at)
		r.calls(1, -api.EISDIR, api.CallExec, at)
		r.calls(1, -api.EISDIR, api.CallLink, at, at)
		r.calls(1, -api.EBUSY, api.CallRename, at, at)
	}
	r.puts(1, texts+0x100, strings.Repeat("/", 65))
	r.calls(1, -api.ENAMETOOLONG, api.CallOpen, texts+0x100, 0)
}

// Where two paths are named, what is wrong with the first one is told first.
func TestTwoPaths(t *testing.T) {
	r := branches(t)
	for _, call := range []uint32{api.CallLink, api.CallRename} {
		none := r.path(1, "/gone/x")
		r.calls(1, -api.EFAULT, call, none, dead)
		r.calls(1, -api.EINVAL, call, none, r.other(1, "x"))
		r.calls(1, -api.ENAMETOOLONG, call, none, r.other(1, strings.Repeat("/", 65)))
		r.calls(1, -api.EINVAL, call, r.path(1, "x"), dead)
		r.calls(1, -api.ENAMETOOLONG, call, r.path(1, strings.Repeat("x", 65)), dead)
		r.calls(1, -api.EFAULT, call, dead, r.other(1, "x"))
	}
}

func TestOpen(t *testing.T) {
	r := branches(t)
	for _, flags := range []uint32{4, 5, 1 << 31, 1<<32 - 1} {
		r.calls(1, -api.EINVAL, api.CallOpen, dead, flags)
	}
	for flags := range uint32(4) {
		r.calls(1, -api.ENOTDIR, api.CallOpen, r.path(1, "/f/x"), flags)
		r.calls(1, -api.ENOTDIR, api.CallOpen, r.path(1, "/f/x/y"), flags)
		r.calls(1, -api.ENOENT, api.CallOpen, r.path(1, "/gone/x"), flags)
		r.calls(1, -api.ENOENT, api.CallOpen, r.path(1, "/d/gone/x"), flags)
		if flags&1 == 0 {
			r.calls(1, -api.ENOENT, api.CallOpen, r.path(1, "/d/x"), flags)
		}
		if flags != 0 {
			r.calls(1, -api.EISDIR, api.CallOpen, r.path(1, "/d"), flags)
			r.calls(1, -api.EISDIR, api.CallOpen, r.path(1, "/"), flags)
		}
	}
	r.calls(1, 2, api.CallOpen, r.path(1, "/f"), 0)
	r.calls(1, 3, api.CallOpen, r.path(1, "/f/"), 1)
	r.tree("/d/", "", "/d/a", "in d", "/d/e/", "", "/e/", "", "/f", "a file", "/g", "another")
	r.calls(1, 4, api.CallOpen, r.path(1, "/g"), 2)
	r.calls(1, 5, api.CallOpen, r.path(1, "/d/new"), 1)
	r.calls(1, 6, api.CallOpen, r.path(1, "/other"), 3)
	r.calls(1, 7, api.CallOpen, r.path(1, "/d"), 0)
	r.calls(1, 8, api.CallOpen, r.path(1, "/"), 0)
	r.tree("/d/", "", "/d/a", "in d", "/d/e/", "", "/d/new", "", "/e/", "", "/f", "a file", "/g", "", "/other", "")
	r.calls(1, 0, api.CallClose, 3)
	r.calls(1, 3, api.CallOpen, r.path(1, "/d/new"), 3)
	// Two opens are two places; what is cut another one finds cut.
	r.calls(1, 9, api.CallOpen, r.path(1, "/f"), 0)
	r.calls(1, 3, api.CallRead, 2, data, 3)
	r.calls(1, 6, api.CallRead, 9, data, 9)
	r.calls(1, 10, api.CallOpen, r.path(1, "/f"), 3)
	r.calls(1, 0, api.CallRead, 2, data, 3)
	r.calls(1, 0, api.CallSize, 9)
}

func TestOpenOfMany(t *testing.T) {
	r := branches(t)
	opens := func(tid int, from, to int) {
		for fd := from; fd <= to; fd++ {
			r.asks(tid, api.CallOpen, texts, 0, 0)
			r.does(api.Event{Kind: api.EvCall, Who: tid, Call: api.CallOpen, Result: int32(fd)})
		}
	}
	r.path(1, "/f")
	for pid := 2; pid <= 6; pid++ {
		r.forks(1, pid)
	}
	opens(2, 2, 15)
	// All descriptors are used: that is told ahead of what is wrong with the path's file.
	r.calls(2, -api.EMFILE, api.CallOpen, texts, 0)
	r.calls(2, -api.EINVAL, api.CallOpen, texts, 4)
	r.calls(2, -api.EFAULT, api.CallOpen, dead, 0)
	for _, s := range []string{"/f/x", "/gone", "/d", "/new"} {
		r.calls(2, -api.EMFILE, api.CallOpen, r.path(2, s), 1)
	}
	r.calls(2, -api.EMFILE, api.CallDup, 0)
	r.calls(2, -api.EMFILE, api.CallPipe, data)
	opens(3, 2, 15)
	opens(4, 2, 15)
	opens(5, 2, 15)
	opens(1, 2, 5)
	// 62 are open: a pipe has room, just.
	r.apart(func(x *rig) {
		x.calls(6, 0, api.CallPipe, data)
		x.calls(6, -api.ENFILE, api.CallPipe, data)
		x.calls(6, -api.ENFILE, api.CallOpen, texts, 0)
		x.calls(6, 0, api.CallClose, 3)
		x.calls(6, -api.ENFILE, api.CallPipe, data)
		x.calls(6, 3, api.CallOpen, texts, 0)
	})
	opens(1, 6, 6)
	r.calls(6, -api.ENFILE, api.CallPipe, data)
	opens(1, 7, 7)
	// 64 are.
	r.calls(6, -api.ENFILE, api.CallPipe, data)
	for _, s := range []string{"/f/x", "/gone", "/d", "/new", "/f"} {
		r.calls(6, -api.ENFILE, api.CallOpen, r.path(6, s), 1)
	}
	r.calls(2, -api.EMFILE, api.CallOpen, r.path(2, "/f"), 0)
	r.calls(6, 2, api.CallDup, 0)
	r.forks(1, 7)
	r.calls(1, 0, api.CallClose, 7)
	// The child has it open still.
	r.calls(6, -api.ENFILE, api.CallOpen, r.path(6, "/f"), 0)
	r.calls(7, 0, api.CallClose, 7)
	r.calls(6, 3, api.CallOpen, texts, 0)
	r.calls(6, -api.ENFILE, api.CallOpen, texts, 0)
	// Whatever a process has open is closed with its end.
	r.does(api.Event{Kind: api.EvKill, Who: 3, Result: -9})
	opens(6, 4, 15)
	opens(7, 7, 8)
	r.calls(7, -api.ENFILE, api.CallOpen, texts, 0)
}

func TestMkdir(t *testing.T) {
	r := branches(t)
	for s, want := range map[string]int32{"/f/x": -api.ENOTDIR, "/f/x/y": -api.ENOTDIR, "/gone/x": -api.ENOENT, "/d": -api.EEXIST, "/d/": -api.EEXIST, "/f": -api.EEXIST, "/d/a": -api.EEXIST} {
		r.calls(1, want, api.CallMkdir, r.path(1, s))
	}
	r.calls(1, 0, api.CallMkdir, r.path(1, "/d/e/x"))
	r.calls(1, 0, api.CallMkdir, r.path(1, "//d//e//x//y//"))
	r.calls(1, 0, api.CallMkdir, r.path(1, "/.."))
	r.calls(1, -api.ENOTDIR, api.CallMkdir, r.path(1, "/d/a/b"))
	r.tree("/../", "", "/d/", "", "/d/a", "in d", "/d/e/", "", "/d/e/x/", "", "/d/e/x/y/", "", "/e/", "", "/f", "a file", "/g", "another")
}

func TestUnlink(t *testing.T) {
	r := branches(t)
	for s, want := range map[string]int32{"/f/x": -api.ENOTDIR, "/gone": -api.ENOENT, "/gone/x": -api.ENOENT, "/d/x": -api.ENOENT, "/d": -api.ENOTEMPTY} {
		r.calls(1, want, api.CallUnlink, r.path(1, s))
	}
	r.calls(1, 0, api.CallUnlink, r.path(1, "/d/e/"))
	r.calls(1, -api.ENOTEMPTY, api.CallUnlink, r.path(1, "/d"))
	r.calls(1, 0, api.CallUnlink, r.path(1, "/d/a"))
	r.calls(1, 0, api.CallUnlink, r.path(1, "/d"))
	r.calls(1, -api.ENOENT, api.CallUnlink, r.path(1, "/d"))
	r.calls(1, -api.ENOENT, api.CallUnlink, r.path(1, "/d/a"))
	r.tree("/e/", "", "/f", "a file", "/g", "another")
	r.calls(1, 0, api.CallMkdir, r.path(1, "/f2"))
	r.calls(1, 0, api.CallUnlink, r.path(1, "/init"))
	r.calls(1, -api.ENOENT, api.CallExec, r.path(1, "/init"))
}

// Example 7 of the whole: what is open can be read still, and written.
func TestUnlinkOfOpen(t *testing.T) {
	r := branches(t)
	r.calls(1, 2, api.CallOpen, r.path(1, "/f"), 0)
	r.calls(1, 3, api.CallOpen, r.path(1, "/f"), 0)
	r.calls(1, 4, api.CallOpen, r.path(1, "/e"), 0)
	r.calls(1, 0, api.CallUnlink, r.path(1, "/f"))
	r.calls(1, 0, api.CallUnlink, r.path(1, "/e"))
	r.calls(1, 5, api.CallOpen, r.path(1, "/f"), 1)
	r.calls(1, 0, api.CallSize, 5)
	r.calls(1, 2, api.CallRead, 2, data, 2)
	r.calls(1, 0, api.CallClose, 2)
	r.calls(1, 6, api.CallSize, 3)
	r.calls(1, 2, api.CallWrite, 3, data, 2)
	r.calls(1, 0, api.CallSeek, 3, 0)
	r.calls(1, 6, api.CallRead, 3, data, 9)
	r.holds(1, data, "a file")
	r.calls(1, 0, api.CallClose, 3)
	r.calls(1, -api.EISDIR, api.CallRead, 4, data, 9)
	r.calls(1, 0, api.CallClose, 4)
	r.tree("/d/", "", "/d/a", "in d", "/d/e/", "", "/f", "", "/g", "another")
}

func TestLink(t *testing.T) {
	r := branches(t)
	for _, x := range []struct {
		a, b string
		want int32
	}{
		{"/gone", "/", -api.ENOENT}, {"/gone/x", "/", -api.ENOENT}, {"/f/x", "/", -api.ENOTDIR}, {"/d", "/", -api.EISDIR}, {"/", "/", -api.EISDIR}, {"/d", "/gone/x", -api.EISDIR},
		{"/f", "/", -api.EEXIST}, {"/f", "/gone/x", -api.ENOENT}, {"/f", "/g/x", -api.ENOTDIR}, {"/f", "/f/x", -api.ENOTDIR}, {"/f", "/g", -api.EEXIST}, {"/f", "/d", -api.EEXIST}, {"/f", "/f", -api.EEXIST},
		{"/f", "/d/f2", 0}, {"/d/f2", "/a", 0},
	} {
		r.calls(1, x.want, api.CallLink, r.path(1, x.a), r.other(1, x.b))
	}
	r.tree("/a", "a file", "/d/", "", "/d/a", "in d", "/d/e/", "", "/d/f2", "a file", "/e/", "", "/f", "a file", "/g", "another")
	r.calls(1, 2, api.CallOpen, r.path(1, "/f"), 0)
	r.calls(1, 0, api.CallUnlink, r.path(1, "/f"))
	r.calls(1, 0, api.CallClose, 2)
	r.calls(1, 2, api.CallOpen, r.path(1, "/a"), 2)
	r.tree("/a", "", "/d/", "", "/d/a", "in d", "/d/e/", "", "/d/f2", "", "/e/", "", "/g", "another")
	r.calls(1, 0, api.CallUnlink, r.path(1, "/a"))
	r.calls(1, 0, api.CallUnlink, r.path(1, "/d/f2"))
	r.calls(1, 0, api.CallSize, 2)
	r.tree("/d/", "", "/d/a", "in d", "/d/e/", "", "/e/", "", "/g", "another")
}

func TestRename(t *testing.T) {
	before := []string{"/d/", "", "/d/a", "in d", "/d/e/", "", "/e/", "", "/f", "a file", "/g", "another"}
	for _, x := range []struct {
		a, b  string
		want  int32
		after []string
	}{
		{"/", "/gone/x", -api.EBUSY, before}, {"/gone/x", "/", -api.EBUSY, before}, {"/f", "/", -api.EBUSY, before},
		{"/gone", "/gone/x", -api.ENOENT, before}, {"/gone/x", "/f/x", -api.ENOENT, before}, {"/f/x", "/gone/x", -api.ENOTDIR, before},
		{"/f", "/gone/x", -api.ENOENT, before}, {"/f", "/g/x", -api.ENOTDIR, before}, {"/f", "/f/x", -api.ENOTDIR, before}, {"/d", "/d/gone/x", -api.ENOENT, before}, {"/d", "/d/a/x", -api.ENOTDIR, before},
		{"/d", "/d/x", -api.EINVAL, before}, {"/d", "/d/e/x", -api.EINVAL, before}, {"/d", "/d/e", -api.EINVAL, before}, {"/d", "/d/a", -api.EINVAL, before},
		{"/d", "//d/", 0, before}, {"/f", "/f", 0, before}, {"/d/e", "/d/e", 0, before},
		{"/f", "/e", -api.EISDIR, before}, {"/f", "/d", -api.EISDIR, before}, {"/d/a", "/d", -api.EISDIR, before}, {"/e", "/f", -api.ENOTDIR, before}, {"/e", "/d/a", -api.ENOTDIR, before},
		{"/e", "/d", -api.ENOTEMPTY, before}, {"/d/e", "/d", -api.ENOTEMPTY, before},
		{"/f", "/d/x", 0, []string{"/d/", "", "/d/a", "in d", "/d/e/", "", "/d/x", "a file", "/e/", "", "/g", "another"}},
		{"/f", "/g", 0, []string{"/d/", "", "/d/a", "in d", "/d/e/", "", "/e/", "", "/g", "a file"}},
		{"/d", "/e", 0, []string{"/e/", "", "/e/a", "in d", "/e/e/", "", "/f", "a file", "/g", "another"}},
		{"/d", "/e/d", 0, []string{"/e/", "", "/e/d/", "", "/e/d/a", "in d", "/e/d/e/", "", "/f", "a file", "/g", "another"}},
		{"/e", "/d/e", 0, []string{"/d/", "", "/d/a", "in d", "/d/e/", "", "/f", "a file", "/g", "another"}},
		{"/d/a", "/dd", 0, []string{"/d/", "", "/d/e/", "", "/dd", "in d", "/e/", "", "/f", "a file", "/g", "another"}},
		{"/d", "/da", 0, []string{"/da/", "", "/da/a", "in d", "/da/e/", "", "/e/", "", "/f", "a file", "/g", "another"}},
	} {
		r := branches(t)
		a, b := r.path(1, x.a), r.other(1, x.b)
		r.asks(1, api.CallRename, a, b, 0)
		r.told(1, x.want)
		r.tree(x.after...)
	}
}

// Another name of the same file is the same; what was there can be open still.
func TestRenameOfLinks(t *testing.T) {
	r := branches(t)
	r.calls(1, 0, api.CallLink, r.path(1, "/f"), r.other(1, "/f2"))
	r.calls(1, 0, api.CallRename, r.path(1, "/f"), r.other(1, "/f2"))
	r.tree("/d/", "", "/d/a", "in d", "/d/e/", "", "/e/", "", "/f", "a file", "/f2", "a file", "/g", "another")
	r.calls(1, 2, api.CallOpen, r.path(1, "/g"), 0)
	r.calls(1, 0, api.CallRename, r.path(1, "/f"), r.other(1, "/g"))
	r.calls(1, 7, api.CallSize, 2)
	r.calls(1, 0, api.CallUnlink, r.path(1, "/g"))
	r.calls(1, 0, api.CallUnlink, r.path(1, "/f2"))
	r.tree("/d/", "", "/d/a", "in d", "/d/e/", "", "/e/", "")
	r.calls(1, 0, api.CallMkdir, r.path(1, "/e/x"))
	r.calls(1, -api.ENOTEMPTY, api.CallRename, r.path(1, "/d"), r.other(1, "/e"))
	r.calls(1, 0, api.CallUnlink, r.path(1, "/e/x"))
	// A directory that took an empty one's place can be emptied, and goes.
	r.calls(1, 0, api.CallRename, r.path(1, "/d"), r.other(1, "/e"))
	r.calls(1, -api.ENOTEMPTY, api.CallUnlink, r.path(1, "/e"))
	r.calls(1, 0, api.CallUnlink, r.path(1, "/e/a"))
	r.calls(1, 0, api.CallRename, r.path(1, "/e/e"), r.other(1, "/x"))
	r.calls(1, 0, api.CallUnlink, r.path(1, "/e"))
	r.tree("/x/", "")
}

// By renaming, trees come to be deeper than a path reaches.
func TestDeepTrees(t *testing.T) {
	r := obeys(t, api.Placed{Path: "/a", Dir: true})
	for range 40 {
		r.calls(1, 0, api.CallMkdir, r.path(1, "/b"))
		r.calls(1, 0, api.CallRename, r.path(1, "/a"), r.other(1, "/b/a"))
		r.calls(1, 0, api.CallRename, r.path(1, "/b"), r.other(1, "/a"))
	}
	l := r.w.Tree()
	if len(l) != 42 || l[40].Path != strings.Repeat("/a", 41) || !l[40].Dir {
		t.Error("Tree", len(l))
	}
}

// A file has 65535 names at most.
func TestManyNames(t *testing.T) {
	r := rigged(t, program(t, `
li r5, 1
li r6, 122
loop: li r1, 21
li r2, init
li r3, name
sys
bne r1, r0, full
li r7, last
next: lb r8, 0(r7)
addi r8, r8, 1
beq r8, r6, carry
sb r8, 0(r7)
jal r9, loop
carry: li r8, 97
sb r8, 0(r7)
addi r7, r7, -1
jal r9, next
full: li r1, 20
li r2, init
sys
li r1, 21
li r2, begin
li r3, init
sys
li r1, 21
li r2, init
li r3, name
sys
begin: .text "/aaaa"
.byte 0
init: .text "/init"
.byte 0
name: .text "/aaa"
last: .text "a"
.byte 0`))
	link := api.Event{Kind: api.EvCall, Who: 1, Call: api.CallLink}
	links := func(times int) {
		for range times {
			for r.w.Do(api.Event{Kind: api.EvInsn, Who: 1}) == api.OK {
			}
			r.does(link)
		}
	}
	links(65534)
	r.runs(1)
	r.refuses(link)
	if n := len(r.w.Tree()); n != 65535 {
		t.Error("names", n)
	}
	r.does(api.Event{Kind: api.EvCall, Who: 1, Call: api.CallLink, Result: -api.EMLINK})
	// One that goes makes room for another one.
	for _, x := range []struct {
		call int
		want int32
	}{{api.CallUnlink, 0}, {api.CallLink, 0}, {api.CallLink, -api.EMLINK}} {
		r.runs(1)
		r.refuses(api.Event{Kind: api.EvCall, Who: 1, Call: x.call, Result: -api.EMLINK - x.want})
		r.does(api.Event{Kind: api.EvCall, Who: 1, Call: x.call, Result: x.want})
	}
}
