package kern_test

import (
	"slices"
	"strings"
	"testing"

	"parapet/api"
)

// obey is a program that reads calls from the console, sixteen bytes each, and makes them.
const obey = `
loop: li r1, 15
	li r2, 0
	li r3, 6128
	li r4, 16
	sys
	li r5, 6128
	lw r1, 0(r5)
	lw r2, 4(r5)
	lw r3, 8(r5)
	lw r4, 12(r5)
	sys
	jal r6, loop
bye: li r1, 8
	sys
doze: li r1, 9
	sys
	jal r6, bye
`

// Where obey has what other threads begin with: the one ends with its argument as its code, the other one sleeps at the word at its argument first.
const (
	byeAt  = 12 * 4
	dozeAt = 14 * 4
)

// script is calls that an init which obeys makes, one behind the other, and what they are told.
type script struct {
	*testing.T
	c     api.Config
	files []api.Placed
	input []byte
	asked []int
	want  []int32
	texts []string
}

func scripted(t *testing.T, files ...api.Placed) *script {
	t.Helper()
	return &script{T: t, c: plain(1), files: planted(t, obey, files...)}
}

// asks lets a call be made, which is told something.
func (s *script) asks(want int, number int, args ...uint32) {
	s.Helper()
	for _, x := range append([]uint32{uint32(number)}, append(args, make([]uint32, 3-len(args))...)...) {
		s.input = append(s.input, byte(x), byte(x>>8), byte(x>>16), byte(x>>24))
	}
	s.asked = append(s.asked, number)
	s.want = append(s.want, int32(want))
}

// lays lets bytes lie at an address.
func (s *script) lays(at uint32, b string) {
	s.Helper()
	s.asks(len(b), api.CallRead, 0, at, uint32(len(b)))
	s.input = append(s.input, b...)
}

// shows lets bytes at an address be written to the console, which tells them in the end.
func (s *script) shows(at uint32, b string) {
	s.Helper()
	s.asks(len(b), api.CallWrite, 1, at, uint32(len(b)))
	s.texts = append(s.texts, b)
}

// plays lets it all be, and tells what was told.
func (s *script) plays(more ...api.Life) api.Told {
	s.Helper()
	l := steady(s.c, min(api.MaxSteps, 1000+70*len(s.asked)))
	l.Input = []api.Typed{{Bytes: string(s.input)}}
	told := watched(s, s.c, s.files, append([]api.Life{l}, more...)...)
	x := told.Lives[0]
	var got []api.Event
	for _, e := range calls(x, 0) {
		if e.Who == 1 {
			got = append(got, e)
		}
	}
	for i, want := range s.want {
		at := 2*i + 1 // the one ahead of it reads what is asked for
		if at >= len(got) {
			s.Fatalf("call %d (%d) was not told: %v", i, s.asked[i], x.Threads)
		}
		if got[at].Result != want {
			s.Errorf("call %d (%d) was told %d, not %d", i, s.asked[i], got[at].Result, want)
		}
	}
	if want := strings.Join(s.texts, ""); x.Output != want {
		s.Errorf("output %q, not %q", x.Output, want)
	}
	return told
}

const a0 = zerosAt // where bytes are read to, and written from

func TestFiles(t *testing.T) {
	s := scripted(t, api.Placed{Path: "/d", Dir: true}, api.Placed{Path: "/d/a", Bytes: "hello, world"})
	s.asks(2, api.CallOpen, pathAt("/d/a"), 0)
	s.asks(12, api.CallSize, 2)
	s.asks(5, api.CallRead, 2, a0, 5)
	s.shows(a0, "hello\x00")
	s.asks(7, api.CallRead, 2, a0, 100)
	s.shows(a0, ", world\x00")
	s.asks(0, api.CallRead, 2, a0, 100)
	s.asks(7, api.CallSeek, 2, 7)
	s.asks(2, api.CallRead, 2, a0+254, 2) // over two pages
	s.shows(a0+253, "\x00wo\x00")
	s.lays(a0, "WORLD!")
	s.asks(6, api.CallWrite, 2, a0, 6)
	s.asks(15, api.CallSize, 2)
	s.asks(3, api.CallOpen, pathAt("/d/a"), 1) // another place
	s.asks(4, api.CallDup, 2)                  // the same place
	s.asks(15, api.CallRead, 3, a0, 99)
	s.shows(a0, "hello, woWORLD!\x00")
	s.asks(0, api.CallSeek, 4, 0)
	s.asks(5, api.CallRead, 2, a0, 5)
	s.asks(2, api.CallRead, 4, a0, 2)
	s.shows(a0, ", llo")
	s.asks(5, api.CallOpen, pathAt("/x"), 1)
	s.asks(api.MaxFileSize, api.CallSeek, 5, api.MaxFileSize)
	s.asks(-api.EINVAL, api.CallSeek, 5, api.MaxFileSize+1)
	s.asks(-api.EFBIG, api.CallWrite, 5, a0, 1)
	s.asks(0, api.CallWrite, 5, a0, 0)
	s.asks(0, api.CallSize, 5)
	s.asks(600, api.CallSeek, 5, 600)
	s.asks(0, api.CallWrite, 5, a0, 0)
	s.asks(0, api.CallSize, 5)
	s.asks(2, api.CallWrite, 5, a0, 2)
	s.asks(602, api.CallSize, 5)
	s.asks(598, api.CallSeek, 5, 598)
	s.asks(4, api.CallRead, 5, a0+8, 9)
	s.shows(a0+8, "\x00\x00, LD")
	s.asks(0, api.CallClose, 5)
	s.asks(-api.EBADF, api.CallClose, 5)
	s.asks(5, api.CallOpen, pathAt("/x"), 2) // its bytes are gone
	s.asks(0, api.CallSize, 5)
	s.asks(0, api.CallSync)
	told := s.plays()
	want := planted(t, obey, api.Placed{Path: "/d", Dir: true}, api.Placed{Path: "/d/a", Bytes: "hello, woWORLD!"}, api.Placed{Path: "/x"})
	if !slices.Equal(told.End, want) {
		t.Errorf("%.300v", told.End)
	}
}

func TestDescriptorsThatAreRefused(t *testing.T) {
	s := scripted(t, api.Placed{Path: "/d", Dir: true})
	s.asks(2, api.CallOpen, pathAt("/d"), 0)
	for _, fd := range []uint32{3, 15, 16, 1 << 31, 1<<32 - 1} {
		s.asks(-api.EBADF, api.CallClose, fd)
		s.asks(-api.EBADF, api.CallRead, fd, a0, 1)
		s.asks(-api.EBADF, api.CallWrite, fd, a0, 1)
		s.asks(-api.EBADF, api.CallDup, fd)
		s.asks(-api.EBADF, api.CallSize, fd)
		s.asks(-api.EBADF, api.CallSeek, fd, 0)
		s.asks(-api.EBADF, api.CallPoll, fd, 1)
	}
	s.asks(-api.EBADF, api.CallRead, 1, a0, 1)
	s.asks(-api.EBADF, api.CallWrite, 0, a0, 1)
	for _, number := range []int{api.CallRead, api.CallWrite} {
		s.asks(-api.EISDIR, number, 2, a0, 1)
		s.asks(-api.EISDIR, number, 2, a0, 0)
		s.asks(-api.EFAULT, number, 2, deadAt, 1)
		s.asks(-api.EINVAL, number, 2, deadAt, 1025)
		s.asks(-api.EBADF, number, 7, deadAt, 1025)
	}
	for _, fd := range []uint32{0, 1, 2} {
		s.asks(-api.EINVAL, api.CallSize, fd)
		s.asks(-api.EINVAL, api.CallSeek, fd, 0)
	}
	for _, what := range []uint32{0, 3, 1 << 31} {
		s.asks(-api.EINVAL, api.CallPoll, 0, what)
	}
	s.asks(1, api.CallPoll, 2, 1)
	s.asks(1, api.CallPoll, 2, 2)
	s.asks(1, api.CallPoll, 0, 1)
	s.asks(1, api.CallPoll, 0, 2) // it is refused
	s.asks(1, api.CallPoll, 1, 1)
	s.asks(1, api.CallPoll, 1, 2)
	s.plays()
}

func TestBuffers(t *testing.T) {
	s := scripted(t, api.Placed{Path: "/a", Bytes: strings.Repeat("a", 1024)})
	s.asks(2, api.CallOpen, pathAt("/a"), 0)
	for _, number := range []int{api.CallRead, api.CallWrite} {
		s.asks(-api.EFAULT, number, 2, deadAt-1023, 1024)
		s.asks(-api.EFAULT, number, 2, deadAt, 1)
		s.asks(-api.EFAULT, number, 2, 0xffff, 2)
		s.asks(-api.EFAULT, number, 2, 0x10000, 1)
		s.asks(-api.EFAULT, number, 2, 1<<32-1, 2)
		s.asks(-api.EFAULT, number, 2, 0xff00, 1)
		s.asks(0, number, 2, deadAt, 0) // no byte must be there
		s.asks(0, number, 2, 1<<32-1, 0)
		s.asks(-api.EINVAL, number, 2, a0, 1025)
		s.asks(-api.EINVAL, number, 2, a0, 1<<32-1)
	}
	s.asks(16, api.CallRead, 2, a0, 16)
	s.asks(1008, api.CallRead, 2, a0, 1008)
	s.shows(a0, strings.Repeat("a", 500))
	s.asks(1024, api.CallWrite, 2, a0, 1024)
	s.asks(2048, api.CallSize, 2)
	s.plays()
}

func TestPaths(t *testing.T) {
	s := scripted(t, api.Placed{Path: "/a", Bytes: "a"}, api.Placed{Path: "/d", Dir: true}, api.Placed{Path: "/d/e", Dir: true})
	long := pathAt("//////////////0")
	for _, number := range []int{api.CallOpen, api.CallMkdir, api.CallUnlink, api.CallLink, api.CallRename, api.CallExec} {
		for _, x := range []struct {
			at   uint32
			want int
		}{
			{deadAt, -api.EFAULT}, {1 << 31, -api.EFAULT}, {long, -api.ENAMETOOLONG}, {pathAt("a"), -api.EINVAL}, {pathAt(""), -api.EINVAL}, {a0, -api.EINVAL},
		} {
			s.asks(x.want, number, x.at, 0)
			if number == api.CallLink || number == api.CallRename {
				s.asks(x.want, number, pathAt("/a"), x.at)
			}
		}
		if number != api.CallMkdir && number != api.CallOpen {
			s.asks(-api.ENOENT, number, pathAt("/gone/x"), pathAt("/b"))
			s.asks(-api.ENOTDIR, number, pathAt("/a/x"), pathAt("/b"))
			s.asks(-api.ENOENT, number, pathAt("/b"), pathAt("/c"))
		}
	}
	s.asks(-api.EINVAL, api.CallOpen, pathAt("/a"), 4)
	s.asks(-api.EINVAL, api.CallOpen, deadAt, 1<<32-1)
	for _, how := range []uint32{0, 1, 2, 3} {
		s.asks(-api.ENOENT, api.CallOpen, pathAt("/gone/x"), how)
		s.asks(-api.ENOTDIR, api.CallOpen, pathAt("/a/x"), how)
		if how > 0 {
			s.asks(-api.EISDIR, api.CallOpen, pathAt("/"), how)
			s.asks(-api.EISDIR, api.CallOpen, pathAt("/d"), how)
		}
	}
	s.asks(-api.ENOENT, api.CallOpen, pathAt("/b"), 0)
	s.asks(-api.ENOENT, api.CallOpen, pathAt("/b"), 2)
	s.asks(-api.EEXIST, api.CallMkdir, pathAt("/"))
	s.asks(-api.EEXIST, api.CallMkdir, pathAt("/a"))
	s.asks(-api.EEXIST, api.CallMkdir, pathAt("//d//"))
	s.asks(-api.ENOENT, api.CallMkdir, pathAt("/gone/x"))
	s.asks(-api.ENOTDIR, api.CallMkdir, pathAt("/a/x"))
	s.asks(0, api.CallMkdir, pathAt("/e"))
	s.asks(0, api.CallMkdir, pathAt("/e/e"))
	s.asks(-api.EBUSY, api.CallUnlink, pathAt("/"))
	s.asks(-api.ENOTEMPTY, api.CallUnlink, pathAt("/d"))
	s.asks(0, api.CallUnlink, pathAt("/e/e"))
	s.asks(0, api.CallUnlink, pathAt("/e"))
	s.asks(-api.ENOENT, api.CallUnlink, pathAt("/e"))
	s.asks(2, api.CallOpen, pathAt("/"), 0)
	s.asks(3, api.CallOpen, pathAt("//d//"), 0)
	s.asks(4, api.CallOpen, pathAt("/b/"), 3)
	told := s.plays()
	if l := told.Lives[0].Tree; !slices.Equal(told.End, l) {
		t.Error("nothing was synced", told.End)
	}
}

func TestLinks(t *testing.T) {
	s := scripted(t, api.Placed{Path: "/a", Bytes: "a"}, api.Placed{Path: "/d", Dir: true})
	s.asks(0, api.CallLink, pathAt("/a"), pathAt("/d/a"))
	s.asks(-api.EEXIST, api.CallLink, pathAt("/a"), pathAt("/d/a"))
	s.asks(-api.EEXIST, api.CallLink, pathAt("/a"), pathAt("/a"))
	s.asks(-api.EEXIST, api.CallLink, pathAt("/a"), pathAt("/"))
	s.asks(-api.EISDIR, api.CallLink, pathAt("/d"), pathAt("/b"))
	s.asks(-api.EISDIR, api.CallLink, pathAt("/"), pathAt("/"))
	s.asks(-api.ENOENT, api.CallLink, pathAt("/a"), pathAt("/gone/x"))
	s.asks(-api.ENOTDIR, api.CallLink, pathAt("/a"), pathAt("/a/x"))
	s.asks(0, api.CallRename, pathAt("/a"), pathAt("/d/a")) // the same file: both stay
	s.asks(2, api.CallOpen, pathAt("/a"), 0)
	s.asks(0, api.CallUnlink, pathAt("/a"))
	s.asks(3, api.CallOpen, pathAt("/d/a"), 0)
	s.asks(1, api.CallWrite, 3, pathAt("/b")+1, 1)
	s.asks(1, api.CallRead, 2, a0, 1)
	s.shows(a0, "b")
	s.asks(0, api.CallSync)
	told := s.plays()
	if want := planted(t, obey, api.Placed{Path: "/d", Dir: true}, api.Placed{Path: "/d/a", Bytes: "b"}); !slices.Equal(told.End, want) {
		t.Errorf("%.300v", told.End)
	}
}

func TestRenames(t *testing.T) {
	s := scripted(t, api.Placed{Path: "/a", Bytes: "a"}, api.Placed{Path: "/b", Bytes: "b"}, api.Placed{Path: "/d", Dir: true}, api.Placed{Path: "/d/a", Bytes: "da"}, api.Placed{Path: "/e", Dir: true})
	s.asks(-api.EBUSY, api.CallRename, pathAt("/"), pathAt("/a"))
	s.asks(-api.EBUSY, api.CallRename, pathAt("/a"), pathAt("/"))
	s.asks(-api.ENOENT, api.CallRename, pathAt("/a"), pathAt("/gone/x"))
	s.asks(-api.ENOTDIR, api.CallRename, pathAt("/a"), pathAt("/a/x"))
	s.asks(-api.EINVAL, api.CallRename, pathAt("/d"), pathAt("/d/e"))
	s.asks(-api.ENOENT, api.CallRename, pathAt("/d"), pathAt("/d/e/a"))
	s.asks(0, api.CallRename, pathAt("/d"), pathAt("//d//"))
	s.asks(-api.EISDIR, api.CallRename, pathAt("/a"), pathAt("/d"))
	s.asks(-api.ENOTDIR, api.CallRename, pathAt("/d"), pathAt("/a"))
	s.asks(-api.ENOTEMPTY, api.CallRename, pathAt("/e"), pathAt("/d"))
	s.asks(0, api.CallRename, pathAt("/d"), pathAt("/e")) // in the place of an empty one
	s.asks(2, api.CallOpen, pathAt("/b"), 0)
	s.asks(0, api.CallRename, pathAt("/a"), pathAt("/b"))
	s.asks(1, api.CallRead, 2, a0, 9) // what stood there is open still
	s.shows(a0, "b")
	s.asks(0, api.CallRename, pathAt("/b"), pathAt("/e/d"))
	s.asks(0, api.CallSync)
	told := s.plays()
	want := planted(t, obey, api.Placed{Path: "/e", Dir: true}, api.Placed{Path: "/e/a", Bytes: "da"}, api.Placed{Path: "/e/d", Bytes: "a"})
	if !slices.Equal(told.End, want) {
		t.Errorf("%.300v", told.End)
	}
}

// Example 7 of the whole.
func TestOpenFilesWithoutAName(t *testing.T) {
	s := scripted(t, api.Placed{Path: "/a", Bytes: "hello"}, api.Placed{Path: "/b", Bytes: "b"})
	s.c.Layout.Inodes = 4 // the root, /init, and these two
	s.asks(2, api.CallOpen, pathAt("/a"), 0)
	s.asks(3, api.CallDup, 2)
	s.asks(0, api.CallUnlink, pathAt("/a"))
	s.asks(-api.ENOENT, api.CallOpen, pathAt("/a"), 0)
	s.asks(-api.ENOSPC, api.CallOpen, pathAt("/a"), 1) // its inode is not free
	s.asks(5, api.CallRead, 2, a0, 9)
	s.shows(a0, "hello")
	s.asks(5, api.CallSize, 2)
	s.asks(0, api.CallClose, 2)
	s.asks(-api.ENOSPC, api.CallMkdir, pathAt("/a"))
	s.asks(0, api.CallClose, 3)
	s.asks(0, api.CallMkdir, pathAt("/a")) // now it is
	s.asks(2, api.CallOpen, pathAt("/a"), 0)
	s.asks(0, api.CallUnlink, pathAt("/a")) // of a directory that is open, too
	s.asks(3, api.CallOpen, pathAt("/a"), 1)
	s.asks(2, api.CallWrite, 3, pathAt("/c"), 2)
	s.asks(-api.EISDIR, api.CallRead, 2, a0, 9) // whatever has its inode's number
	s.asks(-api.EISDIR, api.CallWrite, 2, a0, 9)
	s.asks(-api.EINVAL, api.CallSize, 2)
	s.asks(0, api.CallUnlink, pathAt("/a"))
	s.asks(2, api.CallSize, 3)
	s.asks(0, api.CallClose, 3)
	s.asks(3, api.CallOpen, pathAt("/a"), 1) // as the directory is open still, that file would be kept by mistake
	s.asks(0, api.CallUnlink, pathAt("/a"))
	s.asks(0, api.CallClose, 2)
	s.asks(0, api.CallSync)
	told := s.plays(api.Life{Steps: 1, Stop: -1})
	if want := planted(t, obey, api.Placed{Path: "/b", Bytes: "b"}); !slices.Equal(told.End, want) {
		t.Errorf("%.300v", told.End)
	}
}

// A disk that is full, and what is freed on it; a log that is full is none.
func TestFullDisk(t *testing.T) {
	s := scripted(t)
	s.c.Layout = api.Layout{Sectors: 64, Log: 32, Inodes: 8}
	// The superblock, the log, the inodes, the bitmap; 29 blocks of data, of which the root has one, /init four or so.
	s.asks(2, api.CallOpen, pathAt("/a"), 1)
	whole := 0
	for range 12 {
		s.asks(1024, api.CallWrite, 2, a0, 1024)
		whole += 1024
	}
	init := planted(t, obey)[0]
	free := 28 - (len(init.Bytes)+511)/512
	if free < 24 || free > 26 {
		t.Fatal("blocks", free)
	}
	// One for numbers, and those that are left.
	for range free - 24 - 1 {
		s.asks(512, api.CallWrite, 2, pathsAt, 512)
		whole += 512
	}
	s.asks(-api.ENOSPC, api.CallWrite, 2, pathsAt, 512)
	s.asks(-api.ENOSPC, api.CallWrite, 2, pathsAt, 1)
	s.asks(whole, api.CallSize, 2)
	s.asks(-api.EINVAL, api.CallMkdir, a0) // that is told first
	s.asks(0, api.CallMkdir, pathAt("/d")) // an empty one has no block
	s.asks(-api.ENOSPC, api.CallMkdir, pathAt("/d/e"))
	s.asks(-api.ENOSPC, api.CallLink, pathAt("/a"), pathAt("/d/a"))
	s.asks(-api.ENOSPC, api.CallRename, pathAt("/a"), pathAt("/d/a"))
	s.asks(0, api.CallUnlink, pathAt("/a"))
	s.asks(-api.ENOSPC, api.CallMkdir, pathAt("/d/e"))
	s.asks(0, api.CallClose, 2)
	s.asks(0, api.CallMkdir, pathAt("/d/e")) // the blocks are free
	s.asks(0, api.CallSync)
	told := s.plays()
	if want := planted(t, obey, api.Placed{Path: "/d", Dir: true}, api.Placed{Path: "/d/e", Dir: true}); !slices.Equal(told.End, want) {
		t.Errorf("%.300v", told.End)
	}
}

// An inode that can't be freed because the log is full: who needs one waits for a commit, and is told that there is none only if there is none.
func TestInodesThatAreLoose(t *testing.T) {
	s := scripted(t, api.Placed{Path: "/a", Bytes: strings.Repeat("a", 15360)}, api.Placed{Path: "/b"}, api.Placed{Path: "/c"}, api.Placed{Path: "/d", Dir: true}, api.Placed{Path: "/e", Dir: true}, api.Placed{Path: "/prog"}, api.Placed{Path: "/x", Bytes: "x"})
	s.c.Layout.Inodes = 9 // all are used; the last one, /x, stands in a block of its own
	full := func() {
		s.asks(2, api.CallOpen, pathAt("/x"), 0)
		s.asks(0, api.CallUnlink, pathAt("/x"))
		s.asks(3, api.CallOpen, pathAt("/a"), 0)
		s.asks(0, api.CallSync)
		// The root's block, the other inodes' block, and twenty-nine of /a: as many as the log has room for.
		s.asks(0, api.CallRename, pathAt("/b"), pathAt("/x"))
		for range 14 {
			s.asks(1024, api.CallWrite, 3, a0, 1024)
		}
		s.asks(512, api.CallWrite, 3, a0, 512)
		s.asks(0, api.CallClose, 2)
	}
	full()
	s.asks(2, api.CallOpen, pathAt("/b"), 1)
	s.asks(-api.ENOSPC, api.CallMkdir, pathAt("/d/e"))
	s.plays()

	// A directory's number that is free at once, and a file's that is open, though both are waiting to be looked at.
	s.input, s.asked, s.want = nil, nil, nil
	full()
	s.asks(0, api.CallUnlink, pathAt("/e"))
	s.asks(2, api.CallOpen, pathAt("/e"), 1)
	s.asks(0, api.CallUnlink, pathAt("/e"))
	s.asks(0, api.CallSync)
	s.asks(4, api.CallOpen, pathAt("/b"), 1)
	s.asks(2, api.CallWrite, 2, pathAt("/c"), 2)
	s.asks(2, api.CallWrite, 4, pathAt("/d"), 2)
	s.asks(0, api.CallSeek, 2, 0)
	s.asks(2, api.CallRead, 2, a0, 9)
	s.shows(a0, "/c")
	s.asks(-api.ENOSPC, api.CallMkdir, pathAt("/d/e"))
	s.asks(0, api.CallClose, 2)
	s.asks(0, api.CallMkdir, pathAt("/d/e"))
	s.plays()
}
