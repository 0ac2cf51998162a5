package call

import (
	"slices"

	"parapet/api"
)

// regions is how many of them a new space has at most.
const regions = 16

// entry is a call: its name, how many arguments it has, the kinds of what it may make, rising.
type entry struct {
	name  string
	count int
	kinds []int
}

// takes is a call of so many arguments that may make objects of some kinds.
func takes(name string, count int, kinds ...int) entry {
	slices.Sort(kinds)
	return entry{name: name, count: count, kinds: kinds}
}

// with is some objects of one kind, and others.
func with(many, kind int, others ...int) []int {
	return append(slices.Repeat([]int{kind}, many), others...)
}

// table is the calls, from the number 1 on.
func table() []entry {
	return []entry{
		takes("exit", 1),
		takes("fork", 0, with(regions, api.KindRegion, api.KindProcess, api.KindThread, api.KindSpace)...),
		takes("wait", 1, api.KindWaiter),
		takes("kill", 1),
		takes("getpid", 0),
		takes("spawn", 3, api.KindThread),
		takes("join", 1, api.KindWaiter),
		takes("texit", 1),
		takes("fwait", 2, api.KindWaiter),
		takes("fwake", 2),
		takes("mmap", 1, api.KindRegion),
		takes("munmap", 2, api.KindRegion),
		takes("open", 2, with(2, api.KindName, api.KindFile, api.KindInode)...),
		takes("close", 1),
		takes("read", 3, api.KindWaiter),
		takes("write", 3, api.KindWaiter),
		takes("dup", 1),
		takes("pipe", 1, with(2, api.KindFile, api.KindPipe)...),
		takes("mkdir", 1, with(2, api.KindName, api.KindInode)...),
		takes("unlink", 1, with(2, api.KindName)...),
		takes("link", 2, with(4, api.KindName)...),
		takes("rename", 2, with(4, api.KindName)...),
		takes("size", 1),
		takes("sync", 0, with(4, api.KindBuffer)...),
		takes("exec", 1, with(regions, api.KindRegion, api.KindSpace, api.KindName, api.KindName)...),
		takes("yield", 0),
		takes("seek", 2),
		takes("gettid", 0),
		takes("ticks", 0),
		takes("poll", 2, api.KindWaiter),
	}
}

// isCall tells whether a call has the number n.
func isCall(n int) bool {
	return n >= api.CallExit && n <= api.CallPoll
}

// find is the call of the number n; one without a name, if there is none.
func find(n int) entry {
	if !isCall(n) {
		return entry{}
	}
	return table()[n-1]
}
