package kern_test

import (
	"slices"
	"strings"
	"testing"

	"parapet/api"
)

func TestSmallCalls(t *testing.T) {
	s := scripted(t)
	s.asks(1, api.CallGetpid)
	s.asks(1, api.CallGettid)
	s.asks(0, api.CallYield)
	s.asks(0, api.CallTicks)
	s.asks(0, api.CallSync)
	for _, number := range []int{0, 31, 99, 1<<31 - 1} {
		s.asks(-api.ENOSYS, number)
	}
	s.asks(-api.ECHILD, api.CallWait, 1)
	s.asks(-api.ECHILD, api.CallWait, deadAt)
	for _, pid := range []uint32{0, 2, 1 << 31, 1<<32 - 1} {
		s.asks(-api.ESRCH, api.CallKill, pid)
		s.asks(-api.ESRCH, api.CallJoin, pid)
	}
	s.asks(-api.EINVAL, api.CallJoin, 1)
	s.plays()
}

// A number of 2^31 or more is no call's, and is told as 0.
func TestGreatNumbers(t *testing.T) {
	x := lives(t, 1, "li r1, -1\nsys\n"+spin, 20)
	if l := calls(x, 0); len(l) != 1 || l[0].Call != 0 || l[0].Result != -api.ENOSYS {
		t.Errorf("%+v", l)
	}
}

func TestThreads(t *testing.T) {
	s := scripted(t)
	s.asks(2, api.CallSpawn, byeAt, 0, 7)
	s.asks(7, api.CallJoin, 2)
	s.asks(-api.ESRCH, api.CallJoin, 2)
	s.asks(3, api.CallSpawn, byeAt, 0, 1<<32-9)
	s.asks(0, api.CallYield)
	s.asks(-9, api.CallJoin, 3)
	s.asks(4, api.CallSpawn, dozeAt, 0, a0) // it sleeps
	s.asks(0, api.CallYield)
	s.asks(0, api.CallFwake, a0+4, 1)
	s.asks(0, api.CallFwake, a0, 0)
	s.asks(1, api.CallFwake, a0, 1<<32-1)
	s.asks(0, api.CallFwake, a0, 1)
	s.asks(a0, api.CallJoin, 4)
	// One behind the other, first come, first served.
	for tid := 5; tid < 9; tid++ {
		s.asks(tid, api.CallSpawn, dozeAt, 0, a0)
	}
	s.asks(0, api.CallYield)
	s.asks(2, api.CallFwake, a0, 2)
	s.asks(a0, api.CallJoin, 6)
	s.asks(a0, api.CallJoin, 5)
	s.asks(2, api.CallFwake, a0, 9)
	s.asks(a0, api.CallJoin, 7)
	s.asks(a0, api.CallJoin, 8)
	for tid := 9; tid < 72; tid++ {
		s.asks(tid, api.CallSpawn, byeAt, 0, 0)
	}
	s.asks(-api.EAGAIN, api.CallSpawn, byeAt, 0, 0) // those that have ended count, too
	s.asks(-api.EAGAIN, api.CallFork)
	s.asks(0, api.CallJoin, 30)
	s.asks(72, api.CallSpawn, byeAt, 0, 0)
	s.plays()
}

func TestSpawnedRegisters(t *testing.T) {
	x := lives(t, 1, "li r1, 6\nli r2, here\nli r3, 77\nli r4, 88\nli r9, 99\nsys\n"+spin, 40, api.Typed{})
	l := x.Threads
	if len(l) != 2 || l[0].Cpu.R[1] != 2 || l[1].Cpu != (api.Cpu{R: [16]uint32{2: 88, 14: 77}, PC: 24}) {
		t.Errorf("%+v", l)
	}
}

func TestWords(t *testing.T) {
	s := scripted(t)
	for _, number := range []int{api.CallFwait, api.CallFwake} {
		s.asks(-api.EINVAL, number, a0+1, 0)
		s.asks(-api.EINVAL, number, 1<<32-1, 0)
	}
	s.asks(-api.EFAULT, api.CallFwait, deadAt, 0)
	s.asks(-api.EFAULT, api.CallFwait, 1<<32-4, 0)
	s.asks(0, api.CallFwake, deadAt, 1)
	s.asks(-api.EAGAIN, api.CallFwait, a0, 1)
	s.lays(a0+4, "\x01\x02\x03\x04")
	s.asks(-api.EAGAIN, api.CallFwait, a0+4, 0)
	s.asks(-api.EAGAIN, api.CallFwait, a0+4, 0x01020304)
	s.asks(2, api.CallSpawn, byeAt, 0, 0)
	told := s.plays()
	if kinds(told.Lives[0], api.EvSleep) != 0 {
		t.Error("somebody sleeps")
	}
	// And of who finds the word as it said.
	s = scripted(t)
	s.lays(a0+4, "\x01\x02\x03\x04")
	s.asks(2, api.CallSpawn, byeAt, 0, 0)
	s.asks(0, api.CallFwait, a0+4, 0x04030201)
	s.want = s.want[:2]
	x := s.plays().Lives[0]
	if x.Threads[0].State != api.ThreadSleep || kinds(x, api.EvSleep) != 1 {
		t.Errorf("%+v", x.Threads)
	}
}

func TestPages(t *testing.T) {
	s := scripted(t)
	s.asks(-api.EINVAL, api.CallMmap, 0)
	s.asks(-api.EINVAL, api.CallMmap, 65)
	s.asks(-api.EINVAL, api.CallMmap, 1<<32-1)
	s.asks(0x8000, api.CallMmap, 2)
	s.asks(0x8200, api.CallMmap, 64)
	s.asks(0xc200, api.CallMmap, 60)
	s.asks(-api.ENOMEM, api.CallMmap, 3)
	s.asks(0xfe00, api.CallMmap, 2)
	s.lays(0x81fe, "over")
	s.shows(0x81fd, "\x00over\x00")
	s.asks(0, api.CallMunmap, 0x8200, 1)
	s.asks(-api.EFAULT, api.CallWrite, 1, 0x8200, 1)
	s.asks(0x8200, api.CallMmap, 1)
	s.shows(0x81fe, "ov\x00\x00") // another page, of zeros
	for _, x := range [][2]uint32{{0x8001, 1}, {0x8000, 0}, {0x8000, 129}, {0xff00, 2}, {0x10000, 1}, {0, 257}, {1<<32 - 256, 1}, {1<<32 - 256, 1 << 24}, {0x8000, 1<<32 - 1}} {
		s.asks(-api.EINVAL, api.CallMunmap, x[0], x[1])
	}
	s.asks(0, api.CallMunmap, 0xff00, 1)
	s.asks(0, api.CallMunmap, 0xff00, 1) // nothing is there any more
	s.asks(0, api.CallMunmap, 0x9000, 112)
	s.asks(0x9000, api.CallMmap, 64)
	s.asks(0, api.CallMunmap, 0x2000, 0xe0) // all but the program
	s.asks(0x8000, api.CallMmap, 64)
	s.plays()
}

// What is read of a process's memory takes no frame; what is stored does, and -ENOMEM is told where there is none.
func TestReadingTakesNoFrame(t *testing.T) {
	s := scripted(t)
	s.c.Frames = 16
	// Of /init: a root, a leaf, its text, two pages of paths; and one in which it reads what it shall do.
	s.asks(0x8000, api.CallMmap, 64)
	s.shows(0x8000, strings.Repeat("\x00", 1024))
	s.asks(-api.EINVAL, api.CallUnlink, 0x8000)
	s.asks(-api.EAGAIN, api.CallFwait, 0x8000, 1)
	s.lays(0x8000, strings.Repeat("a", 1024)) // a leaf and four frames
	s.lays(0x8400, strings.Repeat("b", 1024))
	s.asks(-api.ENOMEM, api.CallExec, pathAt("/init")) // one of those that it wants is there
	s.asks(2, api.CallOpen, pathAt("/init"), 0)
	s.asks(-api.ENOMEM, api.CallRead, 2, 0x8800, 600)
	s.lays(0x8800, strings.Repeat("c", 256))
	s.asks(-api.ENOMEM, api.CallRead, 2, 0x8900, 1)
	s.asks(-api.ENOMEM, api.CallRead, 0, 0x8900, 1)
	s.asks(0, api.CallRead, 2, 0x8900, 0)
	s.asks(4, api.CallRead, 2, a0+1008-4, 4)
	s.shows(a0+1004, "PXE1")
	s.asks(-api.ENOMEM, api.CallPipe, 0x8900)
	s.asks(-api.ENOMEM, api.CallFork)
	s.asks(-api.ENOMEM, api.CallExec, pathAt("/init"))
	s.asks(-api.ENOENT, api.CallOpen, pathAt("/a"), 0)
	s.shows(0x8900, strings.Repeat("\x00", 256))
	s.asks(0, api.CallMunmap, 0x8000, 1)
	s.asks(0, api.CallPipe, 0x8900)
	s.shows(0x88ff, "c\x03\x00\x00\x00\x04\x00\x00\x00")
	s.asks(3, api.CallWrite, 4, 0x8900, 3)
	s.asks(3, api.CallRead, 3, 0x89fd, 600) // those that come alone are stored
	s.asks(3, api.CallWrite, 4, 0x8900, 3)
	s.asks(-api.ENOMEM, api.CallRead, 3, 0x89fe, 600)
	s.plays()
}

func TestPipes(t *testing.T) {
	s := scripted(t)
	s.asks(-api.EINVAL, api.CallPipe, a0+2)
	s.asks(-api.EFAULT, api.CallPipe, deadAt-4)
	s.asks(-api.EFAULT, api.CallPipe, 1<<32-4)
	s.asks(0, api.CallPipe, a0+252) // over two pages
	s.shows(a0+252, "\x02\x00\x00\x00\x03\x00\x00\x00")
	s.asks(-api.EINVAL, api.CallSize, 2)
	s.asks(-api.EINVAL, api.CallSeek, 3)
	s.asks(-api.EBADF, api.CallRead, 3, a0, 1)
	s.asks(-api.EBADF, api.CallWrite, 2, a0, 1)
	s.asks(0, api.CallRead, 2, a0, 0)
	s.asks(0, api.CallPoll, 2, 1)
	s.asks(1, api.CallPoll, 2, 2)
	s.asks(1, api.CallPoll, 3, 1)
	s.asks(1, api.CallPoll, 3, 2)
	s.lays(a0, "abc")
	s.asks(3, api.CallWrite, 3, a0, 3)
	s.asks(1, api.CallPoll, 2, 1)
	s.asks(2, api.CallRead, 2, a0+8, 2)
	s.shows(a0+8, "ab\x00")
	s.asks(511, api.CallWrite, 3, a0+9, 600) // example 4 of the whole, nearly
	s.asks(0, api.CallPoll, 3, 2)
	s.asks(0, api.CallWrite, 3, a0, 0)
	s.asks(512, api.CallRead, 2, a0, 1000)
	s.shows(a0, "cb\x00")
	s.asks(4, api.CallDup, 2)
	s.asks(0, api.CallClose, 2)
	s.asks(1, api.CallWrite, 3, a0, 1)
	s.asks(0, api.CallClose, 4)
	s.asks(1, api.CallPoll, 3, 2) // it is refused
	s.asks(-api.EPIPE, api.CallWrite, 3, a0, 1)
	s.asks(-api.EPIPE, api.CallWrite, 3, a0, 0)
	s.asks(0, api.CallClose, 3)
	s.asks(0, api.CallPipe, a0)
	s.asks(1, api.CallWrite, 3, a0, 1)
	s.asks(0, api.CallClose, 3)
	s.asks(1, api.CallPoll, 2, 1)
	s.asks(1, api.CallRead, 2, a0, 9)
	s.asks(0, api.CallRead, 2, a0, 9) // the end
	s.asks(1, api.CallPoll, 2, 1)
	s.plays()
}

func TestManyDescriptors(t *testing.T) {
	s := scripted(t)
	for fd := 2; fd < 15; fd++ {
		s.asks(fd, api.CallDup, 0)
	}
	s.asks(-api.EMFILE, api.CallPipe, a0)
	s.asks(15, api.CallOpen, pathAt("/a"), 1)
	s.asks(-api.EMFILE, api.CallDup, 0)
	s.asks(-api.EMFILE, api.CallOpen, pathAt("/b"), 1)
	s.asks(-api.EMFILE, api.CallOpen, pathAt("/gone/x"), 0)
	s.asks(-api.EINVAL, api.CallOpen, pathAt("a"), 0)
	s.asks(0, api.CallClose, 7)
	s.asks(7, api.CallDup, 1)
	s.asks(-api.EBADF, api.CallDup, 16)
	s.plays()
}

// Each of five processes opens fourteen files at most; all of them sixty-four.
func TestManyOpenFiles(t *testing.T) {
	open := `
	li r10, 5
top: li r1, 2
	sys
	beq r1, r0, more
	addi r10, r10, -1
	bne r10, r0, top
	li r1, 3
	sys
	li r1, 3
	sys
	jal r6, die
more: li r11, 14
again: li r1, 13
	li r2, @/b/
	sys
	addi r11, r11, -1
	bne r11, r0, again
	li r1, 18
	li r2, 5120
	sys
	li r1, 14
	li r2, 9
	sys
	li r1, 18
	li r2, 5120
	sys
	li r1, 15
	li r2, 0
	li r3, 5120
	li r4, 1
	sys
die: li r1, 1
	sys
`
	c := plain(2)
	l := steady(c, 2500)
	x := watched(t, c, planted(t, spelt(open), api.Placed{Path: "/b"}), l).Lives[0]
	opened := results(x, api.CallOpen)
	told := 0
	for _, r := range opened {
		if r >= 0 {
			told++
		} else if r != -api.ENFILE {
			t.Error("open", r)
		}
	}
	if told < 62 || len(opened) != 70 {
		t.Error(opened)
	}
	if l := results(x, api.CallPipe); !slices.Contains(l, -api.ENFILE) && !slices.Contains(l, -api.EMFILE) {
		t.Error(l)
	}
}

// A console is full in the end.
func TestFullConsole(t *testing.T) {
	text := "again: li r1, 16\nli r2, 1\nli r3, 5120\nli r4, 1024\nsys\njal r5, again\n"
	c := plain(1)
	l := api.Life{Steps: 10000, Stop: -1}
	x := plays(t, c, alone(t, text), l).Lives[0]
	got := results(x, api.CallWrite)
	if len(x.Output) != 1<<20 || slices.Index(got, -api.ENOSPC) != 1024 {
		t.Error(len(x.Output), len(got), slices.Index(got, -api.ENOSPC))
	}
}

// A directory is as great as a file at most, which it is by links alone; then there is no more room.
func TestGreatDirectory(t *testing.T) {
	text := `
	li r1, 13
	li r2, @/a
	li r3, 1
	sys
	li r11, 5120
	li r12, 47
	sb r12, 3(r11)
	li r14, 16705
	lui r14, 16705
	li r3, 5123
again: sw r14, 4(r11)
	addi r14, r14, 1
	li r1, 21
	sys
	jal r5, again
`
	c := plain(1)
	c.Layout = api.Layout{Sectors: 512, Log: 248, Inodes: 16}
	x := plays(t, c, alone(t, spelt(text)), api.Life{Steps: 8000, Stop: -1}).Lives[0]
	told := map[int32]int{}
	for _, r := range results(x, api.CallLink) {
		told[r]++
	}
	// /init and /a are there, too; a path whose name begins with a byte 0 is the root's.
	if told[0] != 1022 || told[-api.ENOSPC] < 9 || told[-api.EEXIST] < 4 || len(told) != 3 {
		t.Error(told)
	}
}
