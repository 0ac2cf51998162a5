package pm_test

import (
	"strings"
	"testing"

	"parapet/api"
)

// P25.2: calls of descriptors, by the table of calls.

// none is descriptors that are none, or of nothing.
var none = []uint32{2, 15, 16, 17, 1000, 1 << 31, 1<<32 - 1}

func TestClose(t *testing.T) {
	r := branches(t)
	for _, fd := range none {
		r.calls(1, -api.EBADF, api.CallClose, fd)
	}
	r.calls(1, 2, api.CallDup, 1)
	r.calls(1, 0, api.CallClose, 1)
	r.calls(1, -api.EBADF, api.CallClose, 1)
	r.calls(1, 2, api.CallWrite, 2, data, 2)
	r.calls(1, 1, api.CallOpen, r.path(1, "/f"), 0)
	if s := r.w.Output(); s != "\x00\x00" {
		t.Errorf("Output %q", s)
	}
}

func TestDup(t *testing.T) {
	r := branches(t)
	for _, fd := range none {
		r.calls(1, -api.EBADF, api.CallDup, fd)
	}
	r.calls(1, 2, api.CallOpen, r.path(1, "/f"), 0)
	r.calls(1, 3, api.CallDup, 2)
	// They share one place.
	r.calls(1, 2, api.CallRead, 2, data, 2)
	r.calls(1, 2, api.CallRead, 3, data, 2)
	r.holds(1, data, "fi")
	r.calls(1, 0, api.CallClose, 2)
	r.calls(1, 2, api.CallDup, 3)
	r.forks(1, 2)
	r.calls(2, 1, api.CallRead, 2, data, 1)
	r.calls(1, 1, api.CallRead, 3, data, 9)
	r.holds(1, data, "e")
	r.holds(2, data, "l")
	for fd := 4; fd <= 15; fd++ {
		r.calls(1, int32(fd), api.CallDup, uint32(fd-1))
	}
	r.calls(1, -api.EMFILE, api.CallDup, 2)
	r.calls(1, -api.EBADF, api.CallDup, 16)
	r.calls(1, 0, api.CallClose, 7)
	r.calls(1, 7, api.CallDup, 15)
}

func TestReadAndWriteRefuse(t *testing.T) {
	r := branches(t)
	r.calls(1, 0, api.CallPipe, data)
	r.calls(1, 4, api.CallOpen, r.path(1, "/"), 0)
	r.calls(1, 5, api.CallOpen, r.path(1, "/f"), 0)
	for _, fd := range append(none[1:], 1, 3) {
		r.calls(1, -api.EBADF, api.CallRead, fd, dead, 1025)
	}
	for _, fd := range append(none[1:], 0, 2) {
		r.calls(1, -api.EBADF, api.CallWrite, fd, dead, 1025)
	}
	for _, call := range []uint32{api.CallRead, api.CallWrite} {
		for _, fd := range []uint32{4, 5} {
			r.calls(1, -api.EINVAL, call, fd, dead, 1025)
			r.calls(1, -api.EINVAL, call, fd, data, 1<<32-1)
			for _, x := range [][2]uint32{{dead, 1}, {dead - 1, 2}, {dead - 1023, 1024}, {dead - 256, 512}, {1 << 16, 1}, {1<<16 + data, 1}, {1<<32 - 1, 1}, {1<<32 - 1, 1024}} {
				r.calls(1, -api.EFAULT, call, fd, x[0], x[1])
			}
		}
		r.calls(1, -api.EISDIR, call, 4, data, 1)
		r.calls(1, -api.EISDIR, call, 4, data, 0)
		r.calls(1, -api.EISDIR, call, 4, dead, 0)
		// A buffer of no bytes is there wherever it is.
		for _, x := range []uint32{dead, 1 << 16, 1<<32 - 1} {
			r.calls(1, 0, call, 5, x, 0)
		}
	}
	// Of a pipe and the console, too, ahead of what they tell.
	for fd := range uint32(4) {
		call := uint32(api.CallRead + fd%2)
		r.calls(1, -api.EINVAL, call, fd, dead, 1025)
		r.calls(1, -api.EFAULT, call, fd, dead-1, 2)
		r.calls(1, 0, call, fd, dead, 0)
	}
	r.calls(1, 0, api.CallMunmap, data+256, 1)
	r.calls(1, -api.EFAULT, api.CallRead, 5, data, 1024)
	r.calls(1, -api.EFAULT, api.CallWrite, 5, data+255, 2)
	r.tree("/d/", "", "/d/a", "in d", "/d/e/", "", "/e/", "", "/f", "a file", "/g", "another")
}

func TestReadOfFiles(t *testing.T) {
	long := strings.Repeat("0123456789abcdef", 128)
	r := obeys(t, api.Placed{Path: "/a", Bytes: long}, api.Placed{Path: "/none"})
	r.calls(1, 2, api.CallOpen, r.path(1, "/a"), 0)
	r.calls(1, 0, api.CallRead, 2, data, 0)
	r.calls(1, 3, api.CallRead, 2, dead-3, 3)
	r.holds(1, dead-4, "\x00012")
	r.calls(1, 1024, api.CallRead, 2, data+1, 1024)
	r.holds(1, data, "\x003"+long[4:1027]+"\x00")
	r.calls(1, 1021, api.CallRead, 2, data, 1024)
	r.calls(1, 0, api.CallRead, 2, data, 1024)
	r.holds(1, data, long[1027:]+"f")
	r.calls(1, 2047, api.CallSeek, 2, 2047)
	r.calls(1, 1, api.CallRead, 2, data, 9)
	r.holds(1, data, "f4")
	r.calls(1, 16384, api.CallSeek, 2, 16384)
	r.calls(1, 0, api.CallRead, 2, data, 9)
	r.calls(1, 3, api.CallOpen, r.path(1, "/none"), 0)
	r.calls(1, 0, api.CallRead, 3, data, 9)
}

func TestWriteOfFiles(t *testing.T) {
	r := branches(t)
	r.puts(1, data, "0123456789")
	r.calls(1, 2, api.CallOpen, r.path(1, "/d/x"), 1)
	r.calls(1, 0, api.CallWrite, 2, data, 0)
	r.calls(1, 3, api.CallWrite, 2, data, 3)
	r.calls(1, 2, api.CallWrite, 2, data+8, 2)
	x := func(bytes string) {
		t.Helper()
		r.tree("/d/", "", "/d/a", "in d", "/d/e/", "", "/d/x", bytes, "/e/", "", "/f", "a file", "/g", "another")
	}
	x("01289")
	r.calls(1, 1, api.CallSeek, 2, 1)
	r.calls(1, 2, api.CallWrite, 2, data+5, 2)
	x("05689")
	r.calls(1, 8, api.CallSeek, 2, 8)
	r.calls(1, 0, api.CallWrite, 2, data, 0)
	x("05689")
	r.calls(1, 1, api.CallWrite, 2, data+9, 1)
	x("05689\x00\x00\x009")
	r.calls(1, 7, api.CallSeek, 2, 7)
	r.calls(1, 4, api.CallWrite, 2, data+1, 4)
	x("05689\x00\x001234")
	r.calls(1, 0, api.CallRead, 2, data, 9)
	// What is written another open file reads.
	r.calls(1, 3, api.CallOpen, r.path(1, "/d/x"), 0)
	r.calls(1, 11, api.CallRead, 3, data, 99)
	r.holds(1, data, "05689\x00\x001234")
	// Its bytes are cut under it: zeros come where they were.
	r.calls(1, 4, api.CallOpen, r.path(1, "/d/x"), 2)
	r.calls(1, 1, api.CallWrite, 2, data+10, 1)
	x(strings.Repeat("\x00", 11) + "4")
	r.holds(1, data, "05689")
}

// A buffer that begins, and ends, within pages.
func TestWriteOverPages(t *testing.T) {
	var b []byte
	for i := range 1024 {
		b = append(b, byte(i%251))
	}
	r := branches(t)
	r.calls(1, 2, api.CallOpen, r.path(1, "/f"), 2)
	r.puts(1, data, string(b))
	r.calls(1, 700, api.CallWrite, 2, data+100, 700)
	r.calls(1, 1, api.CallWrite, 2, data+255, 1)
	r.calls(1, 2, api.CallWrite, 2, data+255, 2)
	r.tree("/d/", "", "/d/a", "in d", "/d/e/", "", "/e/", "", "/f", string(b[100:800])+string(b[255:256])+string(b[255:257]), "/g", "another")
}

func TestGreatestFile(t *testing.T) {
	r := branches(t)
	r.calls(1, 2, api.CallOpen, r.path(1, "/d/x"), 1)
	for i := range 15 {
		r.puts(1, data, strings.Repeat(string(rune('a'+i)), 1024))
		r.calls(1, 1024, api.CallWrite, 2, data, 1024)
	}
	r.calls(1, 1023, api.CallWrite, 2, data, 1023)
	r.calls(1, -api.EFBIG, api.CallWrite, 2, data, 2)
	r.calls(1, 1, api.CallWrite, 2, data, 1)
	r.calls(1, -api.EFBIG, api.CallWrite, 2, data, 1)
	r.calls(1, 0, api.CallWrite, 2, data, 0)
	r.calls(1, 16384, api.CallSize, 2)
	r.calls(1, 15361, api.CallSeek, 2, 15361)
	r.calls(1, -api.EFBIG, api.CallWrite, 2, data, 1024)
	r.calls(1, 1023, api.CallWrite, 2, data, 1023)
	r.calls(1, 3, api.CallOpen, r.path(1, "/d/y"), 1)
	r.calls(1, 16384, api.CallSeek, 3, 16384)
	r.calls(1, -api.EFBIG, api.CallWrite, 3, data, 1)
	r.calls(1, 0, api.CallSize, 3)
	r.calls(1, 16383, api.CallSeek, 3, 16383)
	r.calls(1, 1, api.CallWrite, 3, data, 1)
	r.calls(1, 16384, api.CallSize, 3)
}

func TestPipeCall(t *testing.T) {
	r := obeys(t)
	for _, at := range []uint32{data + 1, data + 2, dead + 3, 1<<32 - 1} {
		r.calls(1, -api.EINVAL, api.CallPipe, at)
	}
	for _, at := range []uint32{dead - 4, dead, 1<<16 - 4, 1 << 16, 1<<32 - 8, 1<<32 - 4} {
		r.calls(1, -api.EFAULT, api.CallPipe, at)
	}
	r.calls(1, 2, api.CallDup, 0)
	r.calls(1, 3, api.CallDup, 0)
	r.calls(1, 0, api.CallClose, 2)
	r.calls(1, 0, api.CallPipe, data+252)
	r.holds(1, data+252, "\x02\x00\x00\x00\x04\x00\x00\x00")
	r.calls(1, -api.EBADF, api.CallWrite, 2, data, 1)
	r.calls(1, -api.EBADF, api.CallRead, 4, data, 1)
	for fd := 5; fd <= 14; fd++ {
		r.calls(1, int32(fd), api.CallDup, 0)
	}
	r.calls(1, -api.EMFILE, api.CallPipe, data)
	r.calls(1, -api.EFAULT, api.CallPipe, dead)
	r.calls(1, 0, api.CallClose, 9)
	r.calls(1, 0, api.CallPipe, dead-8)
	r.holds(1, dead-8, "\x09\x00\x00\x00\x0f\x00\x00\x00")
	r.calls(1, -api.EMFILE, api.CallPipe, data)
}

// Example 4 of the whole, and what follows.
func TestPipes(t *testing.T) {
	r := obeys(t)
	r.calls(1, 0, api.CallPipe, data)
	r.blocks(1, api.CallRead, 2, data, 9)
	r.does(api.Event{Kind: api.EvCall, Who: 1, Call: api.CallRead, Result: -api.ENOMEM})
	r.puts(1, data, strings.Repeat("abcdefghij", 60))
	r.calls(1, 512, api.CallWrite, 3, data, 600)
	r.blocks(1, api.CallWrite, 3, data, 600)
	r.does(api.Event{Kind: api.EvCall, Who: 1, Call: api.CallWrite, Result: -api.ENOSPC})
	r.blocks(1, api.CallWrite, 3, data, 1)
}

func TestPipesOfTwo(t *testing.T) {
	r := obeys(t)
	r.calls(1, 0, api.CallPipe, data)
	r.forks(1, 2)
	r.blocks(2, api.CallRead, 2, data, 9)
	r.puts(1, data, strings.Repeat("abcdefghij", 60))
	r.calls(1, 3, api.CallWrite, 3, data, 3)
	r.told(2, 3)
	r.holds(2, data, "abc")
	r.calls(1, 512, api.CallWrite, 3, data, 600)
	r.blocks(1, api.CallWrite, 3, data+512, 88)
	r.calls(2, 10, api.CallRead, 2, data, 10)
	r.told(1, 10)
	r.calls(2, 512, api.CallRead, 2, data, 1024)
	r.holds(2, data, strings.Repeat("abcdefghij", 52)[10:522-10]+"cdefghijab"[:2])
	// Who writes holds the end open; behind the last one it is the end.
	r.calls(1, 2, api.CallWrite, 3, data, 2)
	r.calls(1, 0, api.CallClose, 3)
	r.calls(2, 0, api.CallRead, 2, data, 0)
	r.calls(2, 1, api.CallRead, 2, data, 1)
	r.calls(2, 4, api.CallDup, 3)
	r.calls(2, 0, api.CallClose, 3)
	r.calls(2, 1, api.CallRead, 2, data, 1)
	r.blocks(1, api.CallRead, 2, data, 1)
	r.calls(2, 0, api.CallClose, 4)
	r.told(1, 0)
	r.calls(2, 0, api.CallRead, 2, data, 1)
}

func TestPipesWithoutReaders(t *testing.T) {
	r := obeys(t)
	r.calls(1, 0, api.CallPipe, data)
	r.calls(1, 512, api.CallWrite, 3, data, 512)
	r.forks(1, 2)
	r.blocks(1, api.CallWrite, 3, data, 1)
	r.does(api.Event{Kind: api.EvCall, Who: 1, Call: api.CallWrite, Result: -api.ENOSPC})
	r.calls(1, 0, api.CallClose, 2)
	r.blocks(1, api.CallWrite, 3, data, 1)
	// The other one's end goes with it.
	r.does(api.Event{Kind: api.EvKill, Who: 2, Result: -9})
	r.told(1, -api.EPIPE)
	r.calls(1, -api.EPIPE, api.CallWrite, 3, data, 0)
	r.calls(1, -api.EFAULT, api.CallWrite, 3, dead, 1)
}

func TestConsole(t *testing.T) {
	r := obeys(t)
	r.puts(1, data, "hello\n\x00\xff")
	r.calls(1, 6, api.CallWrite, 1, data, 6)
	r.calls(1, 0, api.CallWrite, 1, data, 0)
	r.calls(1, 2, api.CallDup, 1)
	r.forks(1, 2)
	r.calls(2, 2, api.CallWrite, 2, data+6, 2)
	if s := r.w.Output(); s != "hello\n\x00\xff" {
		t.Errorf("Output %q", s)
	}
	r.calls(1, 0, api.CallRead, 0, data, 0)
	r.blocks(1, api.CallRead, 0, data, 100)
	r.types("line")
	r.types("s\n")
	r.told(1, 6)
	r.holds(1, data, "lines\n\x00\xff")
	// Descriptors of the console are the open files of the first process.
	r.calls(2, 0, api.CallClose, 1)
	r.calls(2, 1, api.CallDup, 0)
	r.calls(2, -api.EBADF, api.CallWrite, 1, data, 1)
	r.calls(2, -api.EINVAL, api.CallSize, 1)
	r.calls(2, -api.EINVAL, api.CallSeek, 1, 0)
}

func TestFullConsole(t *testing.T) {
	r := obeys(t)
	write := func(n uint32) {
		r.asks(1, api.CallWrite, 1, data, n)
		r.does(api.Event{Kind: api.EvCall, Who: 1, Call: api.CallWrite, Result: int32(n)})
	}
	for range 1023 {
		write(1024)
	}
	write(1000)
	r.calls(1, -api.ENOSPC, api.CallWrite, 1, data, 25)
	write(24)
	r.calls(1, -api.ENOSPC, api.CallWrite, 1, data, 1)
	r.calls(1, 0, api.CallWrite, 1, data, 0)
	if s := r.w.Output(); len(s) != 1<<20 {
		t.Error("Output", len(s))
	}
}

func TestSizeAndSeek(t *testing.T) {
	r := branches(t)
	r.calls(1, 0, api.CallPipe, data)
	r.calls(1, 4, api.CallOpen, r.path(1, "/d"), 0)
	r.calls(1, 5, api.CallOpen, r.path(1, "/f"), 0)
	for _, fd := range append(none[1:], 6) {
		r.calls(1, -api.EBADF, api.CallSize, fd)
		r.calls(1, -api.EBADF, api.CallSeek, fd, 16385)
	}
	for fd := range uint32(5) {
		r.calls(1, -api.EINVAL, api.CallSize, fd)
		r.calls(1, -api.EINVAL, api.CallSeek, fd, 0)
	}
	r.calls(1, 6, api.CallSize, 5)
	for _, at := range []uint32{16385, 1 << 31, 1<<32 - 1} {
		r.calls(1, -api.EINVAL, api.CallSeek, 5, at)
	}
	r.calls(1, 6, api.CallDup, 5)
	r.calls(1, 4, api.CallSeek, 6, 4)
	r.calls(1, 2, api.CallRead, 5, data, 9)
	r.holds(1, data, "le")
	r.calls(1, 16384, api.CallSeek, 5, 16384)
	r.calls(1, 6, api.CallSize, 5)
}

func TestPoll(t *testing.T) {
	r := branches(t)
	for _, fd := range none {
		r.calls(1, -api.EBADF, api.CallPoll, fd, 3)
	}
	r.calls(1, 0, api.CallPipe, data)
	r.calls(1, 4, api.CallOpen, r.path(1, "/d"), 0)
	r.calls(1, 5, api.CallOpen, r.path(1, "/f"), 0)
	for fd := range uint32(6) {
		for _, x := range []uint32{0, 3, 4, 1 << 31, 1<<32 - 1} {
			r.calls(1, -api.EINVAL, api.CallPoll, fd, x)
		}
	}
	polls := func(fd, x uint32, want int32) {
		t.Helper()
		r.calls(1, want, api.CallPoll, fd, x)
	}
	// Files, directories, and what is refused.
	for _, x := range [][2]uint32{{4, 1}, {4, 2}, {5, 1}, {5, 2}, {0, 2}, {1, 1}, {2, 2}, {3, 1}, {1, 2}} {
		polls(x[0], x[1], 1)
	}
	polls(0, 1, 0)
	polls(2, 1, 0)
	polls(3, 2, 1)
	r.calls(1, 511, api.CallWrite, 3, data, 511)
	polls(2, 1, 1)
	polls(3, 2, 1)
	r.calls(1, 1, api.CallWrite, 3, data, 1)
	polls(3, 2, 0)
	r.forks(1, 2)
	r.calls(2, 0, api.CallClose, 2)
	polls(3, 2, 0)
	r.calls(1, 0, api.CallClose, 2)
	polls(3, 2, 1)
	r.calls(1, 0, api.CallPipe, data) // 2, and 6
	r.calls(1, 0, api.CallClose, 6)
	polls(2, 1, 1)
}

// Of the console: nothing was typed, something was, or no more comes.
func TestPollOfConsole(t *testing.T) {
	r := obeys(t)
	r.asks(1, api.CallPoll, 0, 1, 0)
	r.apart(func(x *rig) { x.told(1, 0) })
	r.apart(func(x *rig) {
		x.types("x")
		x.told(1, 1)
	})
	r.does(api.Event{Kind: api.EvEnd})
	r.told(1, 1)
}
