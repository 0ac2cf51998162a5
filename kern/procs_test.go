package kern_test

import (
	"reflect"
	"slices"
	"strings"
	"testing"

	"parapet/api"
)

// told is what a program says, on machines of some harts, whatever the ticks.
func told(t *testing.T, text, want string, more ...api.Placed) {
	t.Helper()
	for harts := 1; harts <= 4; harts++ {
		for seed := range 4 {
			d := newDice(seed)
			c := plain(harts)
			c.Tlb = d.of(1, 2, 64)
			l := steady(c, 3000)
			for range 200 + 200*seed {
				l.Ticks = append(l.Ticks, api.Tick{Step: d.below(3000), Hart: d.below(harts)})
			}
			files := planted(t, spelt(text), more...)
			play := plays
			if seed == 0 {
				play = watched
			}
			x := play(t, c, files, l).Lives[0]
			if x.Output != want || len(x.Procs) != 0 {
				t.Fatalf("%d harts: %q, not %q; %+v", harts, x.Output, want, x.Threads)
			}
		}
	}
}

// Example 1 of the whole: neither sees what the other one writes.
func TestForkParts(t *testing.T) {
	told(t, `
	li r11, 5376
	li r5, 65
	sw r5, 0(r11)
	li r1, 2
	sys
	bne r1, r0, parent
	li r5, 67
	sw r5, 0(r11)
	lw r5, 0(r11)
	%say
	li r1, 1
	li r2, 66
	sys
parent: li r5, 69
	sw r5, 4(r11)
	li r1, 3
	li r2, 5640
	sys
	lw r5, 0(r11)
	%say
	lw r5, 4(r11)
	%say
	lw r5, 5640(r0)
	%say
	li r1, 1
	sys
`, "CAEB")
}

// Whatever a process ends with, its parent is told.
func TestCodes(t *testing.T) {
	wait := `
	li r1, 3
	li r2, 5640
	sys
	lw r5, 5640(r0)
	li r6, 77
	add r5, r6
	%say
	li r1, 1
	sys
`
	for body, want := range map[string]string{
		"li r1, 1\nli r2, -12\nsys\n":          string(rune(77 - 12)),
		"lw r1, 1(r0)\n":                       string(rune(77 - 11)),
		"lw r1, 6144(r0)\n":                    string(rune(77 - 11)),
		"sw r1, 6144(r0)\n":                    string(rune(77 - 11)),
		"cas r1, -4(r0)\n":                     string(rune(77 - 11)),
		"lb r1, -1(r0)\n":                      string(rune(77 - 11)),
		"jal r1, -4096\n":                      string(rune(77 - 11)),
		"li r1, 2\njalr r1, 0(r1)\n":           string(rune(77 - 11)),
		".word 0\n":                            string(rune(77 - 4)),
		".word 29\n":                           string(rune(77 - 4)),
		"li r1, 4\nli r2, 2\nsys\n":            string(rune(77 - 9)),
		"li r1, 8\nli r2, 5\nsys\n":            string(rune(77 + 5)),
		"li r1, 12\nli r2, 0\nli r3, 1\nsys\n": string(rune(77 - 11)),
		"li r1, 6\nli r2, over\nsys\nhere: jal r6, here\nover: lw r1, 2(r0)\n":                                                 string(rune(77 - 11)),
		"li r1, 6\nli r2, over\nsys\nhere: jal r6, here\nover: li r1, 1\nli r2, 9\nsys\n":                                      string(rune(77 + 9)),
		"li r1, 6\nli r2, over\nsys\nli r1, 8\nli r2, 3\nsys\nover: li r1, 26\nsys\nli r1, 26\nsys\nli r1, 8\nli r2, 8\nsys\n": string(rune(77 + 8)),
	} {
		told(t, "li r1, 2\nsys\nbne r1, r0, parent\n"+body+"parent:"+wait, want)
	}
}

// Children of one that ends are process 1's; zombies are told by the least number; who has no child is told so.
func TestOrphansAreFirsts(t *testing.T) {
	told(t, `
	li r1, 2
	sys
	bne r1, r0, parent
	li r1, 2
	sys
	beq r1, r0, leaf
	li r1, 2
	sys
	beq r1, r0, leaf
	li r1, 1
	sys
leaf: li r7, 40
down: addi r7, r7, -1
	bne r7, r0, down
	li r1, 1
	sys
parent: li r1, 3
	li r2, 0
	sys
	add r6, r1
	li r1, 3
	sys
	add r6, r1
	li r1, 3
	sys
	add r6, r1
	li r1, 3
	sys
	add r6, r1
	li r5, 71
	add r5, r6
	%say
	li r1, 1
	sys
`, "F") // 2 + 3 + 4, and ECHILD: 71 + 9 - 10
}

// A process that others wait for, read from, and write to, is killed.
func TestKill(t *testing.T) {
	told(t, `
	li r1, 18
	li r2, 5120
	sys
	li r1, 2
	sys
	bne r1, r0, parent
	li r1, 6
	li r2, dozer
	sys
	li r1, 15
	li r2, 0
	li r3, 5376
	li r4, 1
	sys
dozer: li r1, 9
	li r2, 5376
	li r3, 0
	sys
parent: add r10, r1
	li r1, 14
	li r2, 3
	sys
	li r7, 60
down: addi r7, r7, -1
	bne r7, r0, down
	li r1, 4
	add r2, r10
	sub r2, r7
	li r2, 2
	sys
	add r5, r1
	li r1, 15
	li r2, 2
	li r3, 5376
	li r4, 9
	sys
	li r6, 65
	add r1, r6
	li r5, 0
	add r5, r1
	%say
	li r1, 3
	li r2, 5640
	sys
	li r1, 4
	li r2, 2
	sys
	li r6, 70
	add r1, r6
	li r5, 0
	add r5, r1
	%say
	lw r5, 5640(r0)
	li r6, 77
	add r5, r6
	%say
	li r1, 4
	li r2, 1
	sys
`, "ACD") // the end; ESRCH: 70 - 3; 77 - 9
}

// Example 4 of the whole: who writes blocks till somebody reads.
func TestPipeBetweenProcesses(t *testing.T) {
	told(t, `
	li r1, 18
	li r2, 5120
	sys
	li r1, 2
	sys
	bne r1, r0, reader
	li r1, 14
	li r2, 2
	sys
	li r10, 5
more: li r1, 16
	li r2, 3
	li r3, 4096
	li r4, 400
	sys
	add r9, r1
	addi r10, r10, -1
	bne r10, r0, more
	li r1, 1
	li r2, 0
	add r2, r9
	sys
reader: li r1, 14
	li r2, 3
	sys
again: li r1, 15
	li r2, 2
	li r3, 5376
	li r4, 300
	sys
	add r9, r1
	bne r1, r0, again
	li r1, 3
	li r2, 5640
	sys
	lw r6, 5640(r0)
	li r5, 65
	beq r6, r9, same
	li r5, 66
same: %say
	li r1, 1
	sys
`, "A")
}

// Nobody reads any more: who waits to write is told so.
func TestBrokenPipe(t *testing.T) {
	told(t, `
	li r1, 18
	li r2, 5120
	sys
	li r1, 2
	sys
	bne r1, r0, parent
	li r1, 14
	li r2, 2
	sys
	li r1, 16
	li r2, 3
	li r3, 4096
	li r4, 460
	sys
	li r1, 16
	sys
	li r1, 16
	sys
	li r2, 0
	sub r2, r1
	li r1, 1
	sys
parent: li r7, 80
down: addi r7, r7, -1
	bne r7, r0, down
	li r1, 14
	li r2, 2
	sys
	li r1, 3
	li r2, 5640
	sys
	lw r5, 5640(r0)
	li r6, 33
	add r5, r6
	%say
	li r1, 1
	sys
`, "A")
}

// Example 3 of the whole.
func TestFutexes(t *testing.T) {
	told(t, `
	li r12, 5376
	li r4, 65
	li r10, 2
each: li r1, 6
	li r2, sleeper
	sys
	li r7, 30
calm: li r1, 26
	sys
	addi r7, r7, -1
	bne r7, r0, calm
	addi r4, r4, 1
	addi r10, r10, -1
	bne r10, r0, each
	li r2, 5376
	li r1, 10
	li r2, 5376
	li r3, 1
	sys
	li r5, 64
	add r5, r1
	%say
calm2: lw r5, 8(r12)
	beq r5, r0, calm2
	%say
	li r7, 1
	sw r7, 0(r12)
	li r1, 9
	li r2, 5376
	li r3, 0
	sys
	li r5, 76
	add r5, r1
	%say
	li r1, 1
	sys
sleeper: li r12, 5376
	add r13, r2
	li r1, 9
	li r2, 5376
	li r3, 0
	sys
	sw r13, 8(r12)
there: jal r6, there
`, "AAA") // 64 + 1 woken, who says A, and EAGAIN: 76 - 11
}

// exec: example 9 of the whole, and one that goes on as another program.
func TestExec(t *testing.T) {
	prog := imaged(t, api.Image{Entry: 512, Segments: []api.Segment{{Addr: 512, Bytes: assembled(t, "li r5, 90\nsb r5, 2048(r0)\nadd r5, r1\nadd r5, r2\nsb r5, 2049(r0)\nli r3, 2048\nli r4, 2\nli r2, 1\nli r1, 16\nsys\nlw r1, 0(r0)\n")}}, Zero: []api.Region{{First: 8, Count: 1}}})
	told(t, `
	li r1, 2
	sys
	bne r1, r0, parent
	li r1, 6
	li r2, bye
	sys
	li r1, 25
	li r2, @/prog
	sys
	li r5, 81
	add r5, r1
	%say
	li r1, 7
	li r2, 3
	sys
	li r1, 25
	li r2, @/b
	sys
	li r5, 80
	add r5, r1
	%say
	li r1, 6
	li r2, bye
	sys
	li r7, 60
down: addi r7, r7, -1
	bne r7, r0, down
	li r1, 25
	li r2, @/d
	sys
	li r5, 87
	add r5, r1
	%say
	li r1, 25
	li r2, @/gone/x
	sys
	li r5, 79
	add r5, r1
	%say
	li r1, 25
	li r2, @/prog
	sys
bye: li r7, 20
hold: addi r7, r7, -1
	bne r7, r0, hold
	li r1, 8
	sys
parent: li r1, 3
	li r2, 5640
	sys
	lw r5, 5640(r0)
	li r6, 77
	add r5, r6
	%say
	li r1, 1
	sys
`, "AHBMZZB", api.Placed{Path: "/prog", Bytes: prog}, api.Placed{Path: "/b", Bytes: "no program"}, api.Placed{Path: "/d", Dir: true})
}

// What a sleeping reader of the console is told, and what comes to others.
func TestConsole(t *testing.T) {
	text := "again: li r1, 15\nli r2, 0\nli r3, 5120\nli r4, 3\nsys\nbeq r1, r0, end\nli r4, 0\nadd r4, r1\nli r2, 1\nli r1, 16\nsys\njal r5, again\nend: li r1, 1\nsys\n"
	x := lives(t, 2, text, 600, api.Typed{Step: 200, Bytes: "abcdefg"}, api.Typed{Step: 400, Bytes: "hij"}, api.Typed{Step: 401, Bytes: "kl", End: true})
	if x.Output != "abcdefghijkl" || len(x.Threads) != 0 {
		t.Errorf("%q %+v", x.Output, x.Threads)
	}
	if got := results(x, api.CallRead); !slices.Equal(got, []int32{3, 3, 1, 3, 2, 0}) {
		t.Error(got)
	}
}

// How threads and processes stand at a life's end.
func TestHowTheyStand(t *testing.T) {
	text := `
	li r1, 2
	sys
	beq r1, r0, child
	li r1, 6
	li r2, doze
	sys
	li r1, 6
	li r2, bye
	sys
	li r1, 15
	li r2, 0
	li r3, 5120
	li r4, 1
	sys
child: li r1, 1
	li r2, 5
	sys
doze: li r1, 9
	li r2, 5120
	li r3, 0
	sys
bye: li r1, 8
	li r2, 6
	sys
`
	x := lives(t, 2, text, 300)
	if want := []api.Process{{Pid: 1}, {Pid: 2, Parent: 1, Zombie: true, Code: 5}}; !slices.Equal(x.Procs, want) {
		t.Errorf("%+v", x.Procs)
	}
	var states []int
	var numbers []uint32
	for _, r := range x.Threads {
		states = append(states, r.State)
		numbers = append(numbers, r.Cpu.R[1])
	}
	// In a call a processor is as it was when it called.
	if !slices.Equal(states, []int{api.ThreadCall, api.ThreadSleep, api.ThreadEnded}) || !slices.Equal(numbers, []uint32{15, 9, 8}) {
		t.Errorf("%+v", x.Threads)
	}
}

// Processes and threads that are too many, and what is told when they are.
func TestManyProcesses(t *testing.T) {
	text := "again: li r1, 2\nsys\nbeq r1, r0, child\nbne r10, r0, stop\nadd r10, r0\nblt r1, r0, full\njal r6, again\nfull: li r10, 1\njal r6, again\nstop: li r1, 1\nsys\nchild: li r1, 15\nli r2, 0\nli r3, 5120\nli r4, 1\nsys\n"
	// Of the first one a root, a leaf, three pages; of each other one a root and a leaf: there would be none for one more.
	c := plain(1)
	c.Frames = 5 + 2*(api.MaxProcs-1)
	x := plays(t, c, alone(t, text), api.Life{Steps: 2000, Stop: -1}).Lives[0]
	var want []int32
	for pid := 2; pid <= api.MaxProcs; pid++ {
		want = append(want, int32(pid))
	}
	if got := results(x, api.CallFork); !slices.Equal(got, append(want, -api.EAGAIN, -api.EAGAIN)) {
		t.Error(got)
	}
}

// Two fork at once, and there is room for one more alone: whoever is later is told so, and what was made for it is gone.
func TestForksThatMeet(t *testing.T) {
	text := `
	li r10, 30
again: li r1, 2
	sys
	beq r1, r0, child
	addi r10, r10, -1
	bne r10, r0, again
	jal r6, wait
child: li r1, 15
	li r2, 0
	li r3, 5120
	li r4, 1
	sys
	add r9, r1
	beq r9, r0, dead
	li r8, 5120
	li r1, 6
	li r2, other
	sys
	sw r8, 4(r8)
fork: li r1, 2
	sys
	jal r6, child
other: sw r8, 8(r8)
	jal r6, other
dead: li r1, 1
	sys
wait: li r1, 3
	li r2, 0
	sys
	jal r6, wait
`
	c := plain(4)
	c.Frames = 2000
	l := steady(c, 4000)
	l.Input = []api.Typed{{Step: 2500, Bytes: "abcd"}}
	met := 0
	for seed := range 3 {
		d := newDice(seed)
		for i := 2500; i < len(l.Picks); i++ {
			l.Picks[i] = d.below(4)
		}
		x := watched(t, c, alone(t, text), l).Lives[0]
		got := results(x, api.CallFork)
		if slices.Contains(got, 32) && slices.Contains(got, -api.EAGAIN) {
			met++
		}
	}
	if met == 0 {
		t.Error("they never met")
	}
}

// A process ends while one of its threads waits till a change is settled: what was about to be made is not, and no frame is lost.
func TestEndsWhileSettling(t *testing.T) {
	text := `
	li r1, 2
	sys
	beq r1, r0, both
	li r1, 3
	li r2, 5640
	sys
	lw r5, 5640(r0)
	%say
	li r1, 1
	sys
both: li r1, 11
	li r2, 3
	sys
	li r11, 5120
	li r10, 128
	li r12, 8
	shl r10, r12
	sw r12, 0(r10)
	li r1, 6
	li r2, other
	sys
wait: lw r12, 0(r11)
	beq r12, r0, wait
	sw r12, 4(r11)
	%do
	sys
	jal r6, again
other: lw r13, 0(r10)
	li r12, 1
	sw r12, 0(r11)
polls: lw r12, 4(r11)
	beq r12, r0, polls
	li r7, 20
hold: addi r7, r7, -1
	bne r7, r0, hold
	li r2, 70
	li r1, 1
	sys
again: jal r6, again
`
	for number, do := range map[int]string{api.CallFork: "li r1, 2", api.CallMunmap: "li r1, 12\nli r2, 0\nadd r2, r10\nli r3, 1"} {
		c := plain(2)
		text := strings.Replace(text, "other: lw r13, 0(r10)", "other: li r11, 5120\nli r10, 128\nli r12, 8\nshl r10, r12\nlw r13, 0(r10)", 1)
		files := alone(t, strings.Replace(spelt(text), "%do", do, 1))
		free := steady(c, 600)
		for step := range 30 { // the first process sleeps by then
			free.Picks[step] = step % 2
		}
		x := watched(t, c, files, free).Lives[0]
		// Where the second process's first thread comes in, and which hart that is on.
		came, hart := 0, 0
		point := slices.IndexFunc(x.Events, func(e api.Event) bool { return e.Kind == api.EvCall && e.Call == number && e.Who == 2 })
		if point < 0 {
			t.Fatal("call", number, "was not told")
		}
		for _, e := range x.Events[:point] {
			if e.Kind == api.EvInsn && e.Who == 2 {
				came, hart = e.Step, e.Hart
			}
		}
		l := free
		l.Picks = append(slices.Clone(free.Picks[:came+1]), hart, hart)
		l.Picks = append(l.Picks, slices.Repeat([]int{1 - hart}, 200)...)
		for i := range 300 {
			l.Picks = append(l.Picks, i%2)
		}
		x = watched(t, c, files, l).Lives[0]
		for _, e := range calls(x, number) {
			if e.Who == 2 {
				t.Errorf("call %d was told: %+v", number, e)
			}
		}
		if x.Output != "F" || len(x.Procs) != 0 {
			t.Errorf("call %d: %q, %+v", number, x.Output, x.Threads)
		}
	}
}

// A zombie whose parent ends is process 1's to ask for, and that is told so if it sleeps.
func TestZombiesThatAreHandedOn(t *testing.T) {
	told(t, `
	li r1, 2
	sys
	bne r1, r0, parent
	li r1, 2
	sys
	bne r1, r0, sleeps
	li r1, 2
	sys
	beq r1, r0, leaf
	li r7, 60
down: addi r7, r7, -1
	bne r7, r0, down
	li r1, 1
	li r2, 9
	sys
leaf: li r1, 1
	li r2, 8
	sys
sleeps: li r1, 15
	li r2, 0
	li r3, 5120
	li r4, 1
	sys
parent: li r1, 3
	li r2, 5640
	sys
	li r5, 64
	add r5, r1
	%say
	lw r5, 5640(r0)
	li r6, 64
	add r5, r6
	%say
	li r1, 1
	sys
`, "DH")
}

// A parent that is not the first process sleeps till a child of its own ends.
func TestParentsAreWoken(t *testing.T) {
	told(t, `
	li r1, 2
	sys
	bne r1, r0, parent
	li r1, 2
	sys
	beq r1, r0, leaf
	li r1, 3
	li r2, 5640
	sys
	lw r2, 5640(r0)
	add r2, r1
	li r1, 1
	sys
leaf: li r7, 90
down: addi r7, r7, -1
	bne r7, r0, down
	li r1, 1
	li r2, 9
	sys
parent: li r1, 3
	li r2, 5640
	sys
	lw r5, 5640(r0)
	li r6, 64
	add r5, r6
	%say
	li r1, 1
	sys
`, "L") // 9 and 3
}

// All that wait for one thing are woken by it: two who read a pipe, and its end; two who wait, two who join.
func TestAllAreWoken(t *testing.T) {
	told(t, `
	li r1, 18
	li r2, 5120
	sys
	li r1, 6
	li r2, reader
	sys
	li r1, 6
	sys
	li r12, 5376
	li r10, 12
calm: li r1, 26
	sys
	addi r10, r10, -1
	bne r10, r0, calm
	li r1, 16
	li r2, 3
	li r3, 4096
	li r4, 8
	sys
both: lw r5, 0(r12)
	lw r6, 4(r12)
	add r5, r6
	li r6, 8
	bne r5, r6, both
	li r5, 65
	%say
	sw r12, 16(r12)
	li r1, 14
	li r2, 3
	sys
ends: lw r5, 8(r12)
	lw r6, 12(r12)
	add r5, r6
	li r6, 2
	bne r5, r6, ends
	li r5, 66
	%say
	li r1, 1
	sys
reader: li r1, 28
	sys
	li r12, 5376
	li r6, 2
	sub r1, r6
	shl r1, r6
	add r12, r1
	li r3, 5632
	add r3, r1
	li r1, 15
	li r2, 2
	li r4, 4
	sys
	sw r1, 0(r12)
hold: lw r7, 5392(r0)
	beq r7, r0, hold
	li r1, 15
	sys
	li r1, 1
	sw r1, 8(r12)
stay: jal r5, stay
`, "AB")
	told(t, `
	li r12, 5376
	li r1, 6
	li r2, joined
	sys
	li r1, 6
	li r2, joins
	sys
	li r1, 6
	sys
	li r10, 12
calm: li r1, 26
	sys
	addi r10, r10, -1
	bne r10, r0, calm
	sw r12, 0(r12)
both: lw r5, 4(r12)
	lw r6, 8(r12)
	beq r5, r0, both
	beq r6, r0, both
	add r5, r6
	%say
	li r1, 1
	sys
joined: li r12, 5376
	lw r5, 0(r12)
	beq r5, r0, joined
	li r1, 8
	li r2, 40
	sys
joins: li r1, 28
	sys
	li r12, 5376
	li r6, 2
	li r7, 0
	add r7, r1
	sub r7, r6
	shl r7, r6
	add r12, r7
	li r1, 7
	li r2, 2
	sys
	addi r1, r1, 20
	sw r1, 0(r12)
stay: jal r5, stay
`, "M") // 40 + 20, and ESRCH: 20 - 3: together 77
	told(t, `
	li r12, 5376
	li r1, 2
	sys
	beq r1, r0, child
	li r1, 6
	li r2, waits
	sys
	li r1, 6
	sys
both: lw r5, 4(r12)
	lw r6, 8(r12)
	beq r5, r0, both
	beq r6, r0, both
	add r5, r6
	%say
	li r1, 1
	sys
child: li r7, 120
down: addi r7, r7, -1
	bne r7, r0, down
	li r1, 1
	sys
waits: li r1, 28
	sys
	li r12, 5376
	li r6, 2
	li r7, 0
	add r7, r1
	addi r7, r7, -2
	shl r7, r6
	add r12, r7
	li r1, 3
	li r2, 0
	sys
	addi r1, r1, 40
	sw r1, 0(r12)
stay: jal r5, stay
`, "H") // 2 + 40, and ECHILD: 40 - 10: together 72
}

// Threads that ended are gone behind an exec.
func TestExecIsAlone(t *testing.T) {
	text := "li r1, 6\nli r2, bye\nsys\nli r1, 6\nsys\nli r1, 7\nli r2, 2\nsys\nli r10, 9\ncalm: li r1, 26\nsys\naddi r10, r10, -1\nbne r10, r0, calm\nli r1, 25\nli r2, @/prog\nsys\nbye: li r1, 8\nsys\n"
	prog := api.Placed{Path: "/prog", Bytes: imaged(t, api.Image{Segments: []api.Segment{{Bytes: assembled(t, spin)}}})}
	x := watched(t, plain(1), planted(t, spelt(text), prog), steady(plain(1), 200)).Lives[0]
	if len(x.Threads) != 1 || x.Threads[0].Tid != 1 || len(calls(x, api.CallExec)) != 1 || len(calls(x, api.CallTexit)) != 2 {
		t.Errorf("%+v", x.Threads)
	}
}

// Frames come back: of processes that ended, of programs that were left, of pages that were taken away.
func TestFramesComeBack(t *testing.T) {
	text := `
top: li r1, 2
	sys
	beq r1, r0, child
	sw r1, 5376(r0)
	li r1, 3
	li r2, 0
	sys
	li r1, 11
	li r2, 4
	sys
	sw r1, 0(r1)
	sw r1, 256(r1)
	li r2, 0
	add r2, r1
	li r1, 12
	li r3, 4
	sys
	jal r5, top
child: sw r5, 5632(r0)
	li r1, 25
	li r2, @/prog
	sys
`
	prog := api.Placed{Path: "/prog", Bytes: imaged(t, api.Image{Segments: []api.Segment{{Bytes: assembled(t, "sw r1, 1024(r0)\nli r1, 1\nsys\n")}}, Zero: []api.Region{{First: 4, Count: 1}}})}
	c := plain(3)
	c.Frames = 24
	x := watched(t, c, planted(t, spelt(text), prog), steady(c, 6000)).Lives[0]
	if n := len(calls(x, api.CallFork)); n < 30 || kinds(x, api.EvKill) != 0 {
		t.Error(n, "forks,", kinds(x, api.EvKill), "killed")
	}
	for _, e := range calls(x, 0) {
		if e.Result < 0 {
			t.Fatalf("%+v", e)
		}
	}
}

// Machines are told apart by nothing but what they are given.
func TestTheSameAgain(t *testing.T) {
	c := plain(3)
	files := alone(t, "again: li r1, 2\nsys\nli r1, 16\nli r2, 1\nli r3, 4096\nli r4, 3\nsys\njal r5, again\n")
	l := []api.Life{steady(c, 2000), steady(c, 1000)}
	one := plays(t, c, files, l...)
	if two := plays(t, c, files, l...); !reflect.DeepEqual(one, two) {
		t.Error("told otherwise")
	}
}
