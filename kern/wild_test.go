package kern_test

import (
	"fmt"
	"strings"
	"testing"

	"parapet/api"
)

// wild is programs that are made by dice: blocks, one behind the other, each a call or a few instructions, and jumps from one to another.
type wild struct {
	testing.TB
	*dice
	blocks int
	links  bool // may there be links?
	text   strings.Builder
}

// constant is lines that put a number into a register.
func (w *wild) constant(reg int, x uint32) {
	fmt.Fprintf(&w.text, "li r%d, %d\n", reg, int16(x))
	if uint32(int16(x)) != x {
		fmt.Fprintf(&w.text, "lui r%d, %d\n", reg, x>>16)
	}
}

func (w *wild) call(number int, args ...uint32) {
	for i, x := range args {
		w.constant(2+i, x)
	}
	w.constant(1, uint32(number))
	w.text.WriteString("sys\n")
}

// address is one that often is there.
func (w *wild) address() uint32 {
	switch w.below(24) {
	case 0:
		return uint32(w.below(1 << 16))
	case 1:
		return uint32(w.of(deadAt-3, deadAt-1, deadAt, 0xffff, 0x10000, 1<<32-1, 1<<32-4, pathsAt+3, zerosAt+254))
	case 2, 3, 4, 5:
		return uint32(0x8000 + 256*w.below(5) + 4*w.below(3))
	}
	return uint32(zerosAt + 256*w.below(4) + 4*w.below(5))
}

// word is one at a multiple of four.
func (w *wild) word() uint32 {
	if w.below(20) == 0 {
		return w.address() + 1
	}
	return w.address() &^ 3
}

func (w *wild) path() uint32 {
	switch w.below(20) {
	case 0:
		return w.address()
	case 1, 2, 3, 4:
		return uint32(pathsAt + 16*w.below(len(paths)))
	}
	return pathAt([]string{"/a", "/b", "/d", "/d/a", "/d/e", "/d/e/a", "/e", "/e/a", "/a/x", "/"}[w.below(10)])
}

func (w *wild) fd() uint32 {
	return uint32(w.of(w.below(3), 2, 2, 2, 3, 3, w.below(5), w.below(10)))
}

func (w *wild) count() uint32 {
	return uint32(w.of(0, 1, 2, 4, 10, 100, 300, 512, 512, 700, 1024, 1025))
}

// seldom is true once in n times.
func (w *wild) seldom(n int) bool { return w.below(n) == 0 }

// menu is what a program mostly does.
func (w *wild) menu() []func() {
	life := []func(){
		func() { w.call(api.CallFork) },
		func() { w.call(api.CallFork) },
		func() { w.call(api.CallWait, uint32(w.of(0, int(w.word())))) },
		func() { w.call(api.CallExit, uint32(w.below(5))) },
		func() { w.call(api.CallKill, uint32(2+w.below(9))) },
		func() { w.call(w.of(api.CallGetpid, api.CallGettid, api.CallTicks, api.CallYield, 0, 31, 1<<20)) },
		func() { w.call(api.CallExec, uint32(pathsAt+16*w.of(18, 19, 19, w.below(len(paths))))) },
	}
	mates := []func(){
		w.spawn, w.spawn,
		func() { w.call(api.CallJoin, uint32(1+w.below(12))) },
		func() { w.call(api.CallTexit, uint32(w.below(5))) },
		func() { w.call(api.CallFwait, uint32(zerosAt+4*w.below(2)), uint32(w.below(2))) },
		func() { w.call(api.CallFwait, w.word(), 0) },
		func() { w.call(api.CallFwake, uint32(zerosAt+4*w.below(2)), uint32(w.below(3))) },
		func() { w.call(api.CallFwake, w.word(), uint32(w.below(3))) },
	}
	memory := []func(){
		func() { w.call(api.CallMmap, uint32(w.of(1, 1, 2, 3, 64, 65, 0))) },
		func() {
			w.call(api.CallMunmap, uint32(w.of(0x8000, 0x8100, zerosAt+512, 0x8001, 0x8300)), uint32(w.of(1, 1, 2, 3, 0, 200)))
		},
		w.touch, w.touch, w.touch, w.cas,
	}
	files := []func(){
		func() { w.call(api.CallOpen, w.path(), uint32(w.of(0, 1, 2, 3, 1, 3, 4))) },
		w.fill, w.fill,
		func() { w.call(api.CallWrite, w.fd(), w.address(), w.count()) },
		func() { w.call(api.CallWrite, w.fd(), w.address(), w.count()) },
		func() { w.call(api.CallRead, w.fd(), w.address(), w.count()) },
		func() { w.call(api.CallClose, w.fd()) },
		func() { w.call(api.CallMkdir, w.path()) },
		func() { w.call(api.CallUnlink, w.path()) },
		func() { w.call(api.CallRename, w.path(), w.path()) },
		func() { w.call(api.CallSize, w.fd()) },
		func() { w.call(api.CallSeek, w.fd(), w.count()*uint32(w.of(1, 15, 16))) },
		func() { w.call(api.CallSync) },
	}
	if w.links {
		files = append(files, func() { w.call(api.CallLink, w.path(), w.path()) }, func() { w.call(api.CallLink, w.path(), w.path()) })
	}
	pipes := []func(){
		func() { w.call(api.CallPipe, w.word()) },
		func() { w.call(api.CallPipe, w.word()) },
		func() { w.call(api.CallRead, w.fd(), w.address(), w.count()) },
		func() { w.call(api.CallWrite, w.fd(), w.address(), w.count()) },
		func() { w.call(api.CallDup, w.fd()) },
		func() { w.call(api.CallClose, w.fd()) },
		func() { w.call(api.CallPoll, w.fd(), uint32(w.of(1, 2, 1, 2, 3))) },
	}
	all := [][]func(){life, mates, memory, files, pipes}
	var l []func()
	for _, part := range all {
		for range w.of(0, 1, 3) {
			l = append(l, part...)
		}
	}
	return append(l, w.touch, files[0])
}

// spawn lets a thread begin at a block.
func (w *wild) spawn() {
	fmt.Fprintf(&w.text, "li r2, b%d\nli r3, 9\n", w.below(w.blocks))
	w.constant(4, w.address())
	w.call(api.CallSpawn)
}

// fill opens what is at a path, and reads it or writes to it.
func (w *wild) fill() {
	w.call(api.CallOpen, w.path(), uint32(w.of(0, 1, 1, 3)))
	w.text.WriteString("li r2, 0\nadd r2, r1\n")
	if w.seldom(4) {
		w.constant(3, uint32(w.of(api.MaxFileSize-1, api.MaxFileSize, 600, 12*api.SectorSize)))
		w.text.WriteString("li r1, 27\nsys\n")
	}
	w.constant(3, w.address())
	w.constant(4, w.count())
	fmt.Fprintf(&w.text, "li r1, %d\nsys\n", w.of(api.CallRead, api.CallWrite, api.CallWrite, api.CallWrite))
	if w.seldom(2) {
		w.text.WriteString("li r1, 14\nsys\n")
	}
}

func (w *wild) touch() {
	if w.seldom(3) {
		w.constant(5, w.address())
		w.text.WriteString("lb r7, 0(r5)\nsb r1, 0(r5)\n")
		return
	}
	w.constant(5, w.word())
	w.text.WriteString([]string{"lw r7, 0(r5)\n", "sw r1, 0(r5)\n", "lw r7, 0(r5)\naddi r7, r7, 1\nsw r7, 0(r5)\n", "sb r7, 1(r5)\nlb r9, 2(r5)\n"}[w.below(4)])
}

func (w *wild) cas() {
	w.constant(5, uint32(zerosAt+4*w.below(2)))
	w.constant(15, uint32(w.below(2)))
	w.constant(6, uint32(w.below(2)))
	w.text.WriteString("cas r6, 0(r5)\n")
}

// nursing is an init that sees to it that there are children, and lets them begin at the first block.
const nursing = `
top: li r1, 2
	sys
	beq r1, r0, b0
	addi r9, r9, 1
	li r10, 4
	blt r9, r10, top
	li r1, 3
	li r2, 0
	sys
	addi r9, r9, -1
	jal r8, top
`

// program is a program's text.
func (w *wild) program(nurse bool) string {
	w.text.Reset()
	if nurse {
		w.text.WriteString(nursing)
	}
	w.blocks = 8 + w.below(50)
	menu := w.menu()
	for i := range w.blocks {
		fmt.Fprintf(&w.text, "b%d:\n", i)
		menu[w.below(len(menu))]()
		if w.seldom(4) {
			fmt.Fprintf(&w.text, "%s r1, r0, b%d\n", []string{"beq", "bne", "blt"}[w.below(3)], w.below(w.blocks))
		}
	}
	w.text.WriteString("jal r8, b0\n")
	return w.text.String()
}

// image is the image of a program that ends ahead of what lies behind it.
func (w *wild) image(nurse bool) string {
	w.Helper()
	for {
		if text := w.program(nurse); len(assembled(w, text)) <= pathsAt {
			return programmed(w, text)
		}
	}
}

// life is one that is made by dice.
func (w *wild) life(c api.Config, steps int) api.Life {
	l := api.Life{Steps: steps, Stop: -1}
	switch w.below(3) {
	case 0:
		l.Picks = steady(c, steps).Picks
	case 1: // one hart goes on for some time
		hart := 0
		for range steps {
			if w.seldom(6) {
				hart = w.below(8)
			}
			l.Picks = append(l.Picks, hart)
		}
	case 2:
		for range w.below(2 * steps) {
			l.Picks = append(l.Picks, w.below(8))
		}
	}
	for range w.below(steps/w.of(6, 30, 300) + 1) {
		l.Ticks = append(l.Ticks, api.Tick{Step: w.below(steps), Hart: w.below(c.Harts)})
	}
	for range w.below(20) {
		l.Input = append(l.Input, api.Typed{Step: w.below(steps), Bytes: strings.Repeat("k", w.below(200)), End: w.seldom(20)})
	}
	if !w.seldom(3) {
		l.Stop = w.below(w.of(12, 100, 400))
	}
	for at := range 40 {
		if w.seldom(2) {
			l.Torn = append(l.Torn, api.Torn{At: at, Bytes: w.of(api.SectorSize, 1+w.below(api.SectorSize))})
		}
	}
	return l
}

// config is a machine that is made by dice.
func (w *wild) config() api.Config {
	return api.Config{
		Harts: 1 + w.below(api.MaxHarts), Frames: w.of(24, 64, 128, 300, 1000), Tlb: w.of(1, 2, 3, 8, 64), Heap: w.of(1024, 2500, 3500, 6000, 10000, 20000, 1<<20),
		Layout: api.Layout{Sectors: w.of(64, 72, 256, 1000), Log: w.of(32, 33, 40), Inodes: w.of(8, 16, 64)},
	}
}

// play is a machine, files, and lives; only the last one has links.
func (w *wild) play(steps int) (api.Config, []api.Placed, []api.Life) {
	w.Helper()
	c := w.config()
	count := 1 + w.below(3)
	w.links = count == 1
	files := []api.Placed{{Path: "/d", Dir: true}, {Path: "/d/a", Bytes: strings.Repeat("d", w.below(3000))}, {Path: "/init", Bytes: w.image(!w.seldom(4))}, {Path: "/prog", Bytes: w.image(false)}}
	var l []api.Life
	for range count {
		l = append(l, w.life(c, steps/2+w.below(steps)))
	}
	return c, files, l
}
