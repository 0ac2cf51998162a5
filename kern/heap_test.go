package kern_test

import (
	"reflect"
	"slices"
	"strconv"
	"strings"
	"testing"

	"parapet/api"
)

// What lives of a process whose program has three regions: itself, a thread, a space, and these.
const (
	living  = 256 + 128 + 64 + 3*32
	zombie  = 256
	waiter  = 32
	forking = 960
	syncing = 4 * 576
)

// small is a machine with a heap of so many bytes.
func small(harts, heap int) api.Config {
	c := plain(harts)
	c.Heap = heap
	return c
}

// P27.6

// What is above the heap is refused at once; what never will be there, when nobody can be helped.
func TestBoundsAndTheHeap(t *testing.T) {
	for _, x := range []struct {
		heap, number int
		want         int32
		most         int
	}{
		{syncing - 1, api.CallSync, -api.ENOMEM, living},
		{syncing, api.CallSync, -api.ENOMEM, living},
		{living + syncing - 1, api.CallSync, -api.ENOMEM, living},
		{living + syncing, api.CallSync, 0, living + syncing},
		{1 << 30, api.CallSync, 0, living + syncing},
		{living + forking - 1, api.CallFork, -api.ENOMEM, living},
		{living + forking, api.CallFork, 2, living + forking},
		{1024, api.CallPipe, -api.ENOMEM, living},
		{1024, api.CallMmap, 0x8000, living + 32},
	} {
		text := "li r2, 1\nlui r2, 0\nli r1, " + strconv.Itoa(x.number) + "\nsys\n" + spin
		if x.number == api.CallPipe {
			text = "li r2, 5120\nli r1, 18\nsys\n" + spin
		}
		life := watched(t, small(1, x.heap), alone(t, text), api.Life{Steps: 40, Stop: -1}).Lives[0]
		if got := results(life, x.number); !slices.Equal(got, []int32{x.want}) || life.Heap != x.most {
			t.Errorf("heap of %d, call %d: %v, at most %d", x.heap, x.number, got, life.Heap)
		}
	}
}

// three forks three times, taking its time, and then spins; its children do what is said.
const three = `
	li r10, 3
top: li r7, 60
calm: addi r7, r7, -1
	bne r7, r0, calm
	li r1, 2
	sys
	beq r1, r0, child
	addi r10, r10, -1
	bne r10, r0, top
here: jal r5, here
child: `

const (
	exits   = "li r7, 200\ndown: addi r7, r7, -1\nbne r7, r0, down\nli r1, 1\nsys\n"
	reads   = "li r1, 15\nli r2, 0\nli r3, 5120\nli r4, 1\nsys\n"
	mapping = "li r1, 28\nsys\nli r6, %who\nbne r1, r6, other\nli r1, 11\nli r2, 1\nsys\nother: "
)

// Example 8 of the whole. The third fork wants a heap in which there are two zombies.
const tight = living + 2*zombie + forking

func TestForkWaitsForAnExit(t *testing.T) {
	for harts := 1; harts <= 3; harts++ {
		c := small(harts, tight)
		l := steady(c, 2500*harts)
		for step := 0; step < l.Steps; step += 50 {
			l.Ticks = append(l.Ticks, api.Tick{Step: step, Hart: step / 50 % harts})
		}
		x := watched(t, c, alone(t, three+exits), l).Lives[0]
		if got := results(x, api.CallFork); !slices.Equal(got, []int32{2, 3, 4}) || kinds(x, api.EvKill) != 0 {
			t.Errorf("%d harts: forks %v, %d killed", harts, got, kinds(x, api.EvKill))
		}
		forks, ended := calls(x, api.CallFork), calls(x, api.CallExit)
		if len(ended) < 2 || forks[2].Step < ended[1].Step || x.Heap != tight {
			t.Errorf("%d harts: %+v %+v, at most %d", harts, forks, ended, x.Heap)
		}
	}
}

func TestTheGreatestIsKilled(t *testing.T) {
	for text, want := range map[string][]int{
		three + reads: {3, 2}, // as great as one another: the later one
		three + strings.Replace(mapping, "%who", "2", 1) + reads: {2, 3},
		three + strings.Replace(mapping, "%who", "3", 1) + reads: {3, 2},
	} {
		x := watched(t, small(2, 2*living+2*waiter+forking), alone(t, text), steady(plain(2), 1200)).Lives[0]
		var got []int
		for _, e := range x.Events {
			if e.Kind == api.EvKill {
				got = append(got, e.Who)
				if want := (api.Event{Kind: api.EvKill, Step: e.Step, Hart: e.Hart, Who: e.Who, Result: -9}); e != want {
					t.Errorf("%+v", e)
				}
			}
		}
		if !slices.Equal(got, want) || !slices.Equal(results(x, api.CallFork), []int32{2, 3, 4}) {
			t.Errorf("killed %v, not %v; %v", got, want, results(x, api.CallFork))
		}
		if want := []api.Process{{Pid: 1}, {Pid: 2, Parent: 1, Zombie: true, Code: -9}, {Pid: 3, Parent: 1, Zombie: true, Code: -9}, {Pid: 4, Parent: 1}}; !slices.Equal(x.Procs, want) {
			t.Errorf("%+v", x.Procs)
		}
	}
}

// Process 1 is spared: when there is nobody else the first one that waits is told.
func TestTheFirstIsSpared(t *testing.T) {
	c := small(1, tight-1)
	x := watched(t, c, alone(t, three+exits), steady(c, 3000)).Lives[0]
	if got := results(x, api.CallFork); !slices.Equal(got, []int32{2, 3, -api.ENOMEM}) || len(x.Procs) != 3 || x.Procs[0] != (api.Process{Pid: 1}) {
		t.Errorf("%v %+v", got, x.Procs)
	}
}

// Nobody is let in ahead of one that waits, but who ends need not be let in.
func TestInOrder(t *testing.T) {
	for number, killed := range map[string]int{"5": 2, "26": 2, "1": 0, "8": 0, "11": 2} {
		c := small(1, tight)
		text := three + "li r2, 1\nli r1, " + number + "\nsys\n" + reads
		l := steady(c, 4000)
		for step := 40; step < 4000; step += 17 {
			l.Ticks = append(l.Ticks, api.Tick{Step: step})
		}
		x := watched(t, c, alone(t, strings.Replace(text, "child: ", "child: li r7, 200\nhold: addi r7, r7, -1\nbne r7, r0, hold\n", 1)), l).Lives[0]
		if got := results(x, api.CallFork); !slices.Equal(got, []int32{2, 3, 4}) || kinds(x, api.EvKill) != killed {
			t.Errorf("call %s: forks %v, %d killed", number, got, kinds(x, api.EvKill))
		}
	}
}

// What a call made is given back: again and again it is there.
func TestGivenBack(t *testing.T) {
	text := `
top: li r1, 2
	sys
	beq r1, r0, child
	li r1, 3
	li r2, 5376
	sys
	li r1, 18
	li r2, 5120
	sys
	li r1, 14
	lw r2, 5120(r0)
	sys
	li r1, 14
	lw r2, 5124(r0)
	sys
	li r1, 13
	li r2, @/a
	li r3, 1
	sys
	add r9, r1
	li r1, 14
	li r2, 2
	sys
	li r1, 11
	li r2, 3
	sys
	li r1, 12
	li r2, 128
	li r3, 8
	shl r2, r3
	addi r2, r2, 256
	li r3, 1
	sys
	li r1, 12
	addi r2, r2, -256
	li r3, 3
	sys
	li r1, 6
	li r2, bye
	sys
	li r2, 0
	add r2, r1
	li r1, 7
	sys
	jal r5, top
child: li r1, 25
	li r2, @/prog
	sys
bye: li r1, 8
	sys
`
	prog := api.Placed{Path: "/prog", Bytes: imaged(t, api.Image{Segments: []api.Segment{{Bytes: assembled(t, "li r1, 11\nli r2, 2\nsys\nli r1, 1\nsys\n")}}})}
	c := small(2, 2*living+waiter+704)
	x := watched(t, c, planted(t, spelt(text), prog), steady(c, 6000)).Lives[0]
	for _, e := range calls(x, 0) {
		if e.Result < 0 || e.Result == -api.ENOMEM {
			t.Fatalf("%+v", e)
		}
	}
	if n := len(calls(x, api.CallFork)); n < 25 || x.Heap > c.Heap || kinds(x, api.EvKill) != 0 {
		t.Error(n, "forks, at most", x.Heap)
	}
}

// A process of many regions: what is made of them is as many as a call may make.
func TestManyRegions(t *testing.T) {
	text := `
	li r10, 24
	li r11, 128
	li r12, 8
	shl r11, r12
	li r1, 11
	li r2, 49
	sys
next: addi r11, r11, 256
	li r1, 12
	li r2, 0
	add r2, r11
	li r3, 1
	sys
	addi r11, r11, 256
	addi r10, r10, -1
	bne r10, r0, next
	li r1, 2
	sys
	bne r1, r0, parent
	li r1, 12
	li r2, 0
	li r3, 255
	addi r2, r2, 256
	sys
	li r1, 25
	li r2, @/init
	sys
	li r1, 1
	sys
parent: li r1, 12
	li r2, 128
	li r12, 8
	shl r2, r12
	li r3, 128
	sys
	li r1, 3
	li r2, 0
	sys
	li r1, 1
	sys
`
	c := plain(2)
	x := watched(t, c, alone(t, spelt(text)), steady(c, 1500)).Lives[0]
	if len(x.Procs) != 0 || !slices.Equal(results(x, api.CallFork), []int32{2}) {
		t.Errorf("%+v, at most %d", x.Procs, x.Heap)
	}
	// The child holds what a fork may make at most; that is to be seen by a second one.
	text = strings.Replace(text, "parent: ", "parent: li r1, 2\nsys\nbeq r1, r0, here\n", 1) + spin
	text = strings.Replace(text, "bne r1, r0, parent\n", "bne r1, r0, parent\nhere2: jal r5, here2\n", 1)
	x = watched(t, c, alone(t, spelt(text)), steady(c, 600)).Lives[0]
	if !slices.Equal(results(x, api.CallFork), []int32{2, 3}) || x.Heap != living+25*32+2*forking+32 { // and a munmap behind them
		t.Errorf("%v, at most %d", results(x, api.CallFork), x.Heap)
	}
}

// Of a machine on which nobody calls anything it is what the first process is.
func TestHeapOfTheFirst(t *testing.T) {
	x := watched(t, plain(1), alone(t, spin), api.Life{Steps: 9, Stop: -1}).Lives[0]
	if x.Heap != living {
		t.Error(x.Heap)
	}
	if l := watched(t, plain(1), alone(t, spin), api.Life{Stop: 0}).Lives; !reflect.DeepEqual(l, []api.Lived{{Boot: api.ErrKernel}}) {
		t.Errorf("%+v", l)
	}
}
