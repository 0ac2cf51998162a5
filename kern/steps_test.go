package kern_test

import (
	"reflect"
	"slices"
	"strconv"
	"strings"
	"testing"

	"parapet/api"
)

const spin = "here: jal r5, here\n"

// P27.3

func TestInputComesFirst(t *testing.T) {
	c := plain(2)
	l := api.Life{Picks: []int{0, 0, 0, 5, 1}, Steps: 8, Stop: -1, Input: []api.Typed{
		{Step: 7, Bytes: "late"}, {Step: 3, Bytes: "ab"}, {Step: 3, Bytes: "c", End: true}, {Step: 5, Bytes: "behind the end"}, {Step: 8, Bytes: "never"}, {Step: 1},
	}}
	x := watched(t, c, alone(t, spin), l).Lives[0]
	var want []api.Event
	for step := range 8 {
		if step == 3 {
			want = append(want, api.Event{Kind: api.EvInput, Step: 3, Bytes: "ab"}, api.Event{Kind: api.EvInput, Step: 3, Bytes: "c"}, api.Event{Kind: api.EvEnd, Step: 3})
		}
		// The other hart finds nothing to run.
		if step > 0 && step != 3 && step != 4 {
			want = append(want, api.Event{Kind: api.EvInsn, Step: step, Who: 1})
		}
	}
	if !reflect.DeepEqual(x.Events, want) {
		t.Errorf("%+v", x.Events)
	}
}

func TestInputOfOneStepStandsAheadOfItsInstruction(t *testing.T) {
	l := api.Life{Steps: 3, Stop: -1, Picks: []int{1, 1, 1}, Input: []api.Typed{{Step: 1, Bytes: "a"}}}
	x := watched(t, plain(2), alone(t, spin), l).Lives[0]
	want := []api.Event{{Kind: api.EvInput, Step: 1, Bytes: "a"}, {Kind: api.EvInsn, Step: 1, Hart: 1, Who: 1}, {Kind: api.EvInsn, Step: 2, Hart: 1, Who: 1}}
	if !reflect.DeepEqual(x.Events, want) {
		t.Errorf("%+v", x.Events)
	}
}

// two is a program whose second thread spins beside the first.
const two = "li r1, 6\nli r2, here\nsys\n" + spin

// whose is whose instructions stand behind the point of the first call.
func whose(x api.Lived) []int {
	var l []int
	begun := false
	for _, e := range x.Events {
		if begun && e.Kind == api.EvInsn {
			l = append(l, e.Who)
		}
		begun = begun || e.Kind == api.EvCall
	}
	return l
}

// On one hart who runs goes on, but for ticks: each takes a step, and puts whoever runs behind the others.
func TestTicks(t *testing.T) {
	c := plain(1)
	l := api.Life{Steps: 30, Stop: -1}
	x := watched(t, c, alone(t, two), l).Lives[0]
	spawned := calls(x, api.CallSpawn)[0].Step
	if got := whose(x); slices.Contains(got, 2) || len(got) != 29-spawned {
		t.Error("without ticks", got)
	}
	at := spawned + 3
	l.Ticks = []api.Tick{{Step: at + 3}, {Step: at}, {Step: at + 20}, {Step: 100}}
	l.Steps = at + 9
	x = watched(t, c, alone(t, two), l).Lives[0]
	// Two steps without an instruction: the tick's, and that in which the next thread is taken.
	if got := whose(x); !slices.Equal(got, []int{1, 1, 2, 1, 1, 1, 1}) {
		t.Error("with ticks", got)
	}
	// A tick that is pending already is pending.
	l.Ticks = []api.Tick{{Step: at}, {Step: at}}
	x = watched(t, c, alone(t, two), l).Lives[0]
	if got := whose(x); !slices.Equal(got, []int{1, 1, 2, 2, 2, 2, 2, 2, 2}) {
		t.Error("with two ticks at once", got)
	}
	// A tick at a hart that nobody waits for takes its step, too.
	l = api.Life{Steps: 10, Stop: -1, Ticks: []api.Tick{{Step: 0}, {Step: 5}}}
	x = watched(t, c, alone(t, spin), l).Lives[0]
	var steps []int
	for _, e := range x.Events {
		steps = append(steps, e.Step)
	}
	if !slices.Equal(steps, []int{2, 3, 4, 6, 7, 8, 9}) {
		t.Error("alone", steps)
	}
}

func TestTicksAreTold(t *testing.T) {
	l := api.Life{Steps: 60, Stop: -1, Ticks: []api.Tick{{Step: 1}, {Step: 2, Hart: 1}, {Step: 59}}}
	x := watched(t, plain(2), alone(t, "li r1, 29\nsys\n"+spin), l).Lives[0]
	if got := results(x, api.CallTicks); !slices.Equal(got, []int32{2}) {
		t.Error(got)
	}
}

// A tick waits for its own hart.
func TestTicksOfOthers(t *testing.T) {
	l := api.Life{Steps: 6, Stop: -1, Ticks: []api.Tick{{Step: 1, Hart: 1}}}
	x := watched(t, plain(2), alone(t, spin), l).Lives[0]
	if len(x.Events) != 5 {
		t.Error(x.Events)
	}
}

// Picks are harts modulo how many there are; when they are used up it is hart 0.
func TestPicks(t *testing.T) {
	c := plain(3)
	l := api.Life{Steps: 12, Stop: -1, Picks: []int{4, 1, 7, 1<<62 + 1}}
	x := watched(t, c, alone(t, spin), l).Lives[0]
	var harts []int
	for _, e := range x.Events {
		harts = append(harts, e.Hart)
	}
	// Hart 1 takes thread 1, and does two instructions; harts 2 and 0 have nothing to do then.
	if !slices.Equal(harts, []int{1, 1}) {
		t.Error(harts)
	}
	if x.Steps != 12 {
		t.Error("steps", x.Steps)
	}
}

// A hart without work finds some, wherever it was put.
func TestStealing(t *testing.T) {
	c := plain(4)
	files := alone(t, "li r1, 2\nsys\nli r1, 2\nsys\nli r1, 3\nsys\nli r1, 1\nsys\n")
	for hart := range 4 {
		l := api.Life{Steps: 400, Stop: -1, Picks: slices.Repeat([]int{hart}, 400)}
		x := watched(t, c, files, l).Lives[0]
		if len(x.Threads) != 0 || len(calls(x, api.CallFork)) < 2 {
			t.Errorf("hart %d: %+v", hart, x.Threads)
		}
	}
}

// A first store to a page wants a step for its fault; so does a load.
func TestFaultsTakeSteps(t *testing.T) {
	for text, steps := range map[string][]int{
		"li r1, 5120\nsw r1, 0(r1)\nlw r2, 4(r1)\nlw r2, 256(r1)\nsb r1, 256(r1)\n": {1, 3, 4, 6, 7},
		"li r1, 5120\nlw r2, 0(r1)\nsw r2, 0(r1)\n":                                 {1, 3, 4},
	} {
		x := watched(t, plain(1), alone(t, text), api.Life{Steps: steps[len(steps)-1] + 1, Stop: -1}).Lives[0]
		var got []int
		for _, e := range x.Events {
			got = append(got, e.Step)
		}
		if !slices.Equal(got, steps) {
			t.Errorf("%q: %v, not %v", text, got, steps)
		}
	}
}

// shared is a program whose second thread reads a page, again and again, which the first one takes away, or forks, when it is read.
const shared = `
	li r1, 11
	li r2, 1
	sys
	add r10, r1
	li r1, 6
	li r2, reader
	li r4, 0
	sys
	li r11, 5120
wait: lw r12, 0(r11)
	beq r12, r0, wait
	%s
	sys
	li r13, 1
here: jal r5, here
reader: li r11, 5120
	li r10, 128
	li r12, 8
	shl r10, r12
	lw r13, 0(r10)
	li r12, 1
	sw r12, 0(r11)
again: lw r13, 0(r10)
	addi r14, r14, 1
	jal r5, again
`

// barrier is what is told when one hart is not picked any more behind the second thread's reads and the first one's call: the steps in which it came in, and in which it was told; at the place of %d hart 1 is picked once.
func barrier(t *testing.T, c api.Config, text string, number int) (came, told int, x api.Lived) {
	t.Helper()
	files := alone(t, text)
	free := steady(c, 400)
	x = watched(t, c, files, free).Lives[0]
	point := calls(x, number)[0].Step
	for _, e := range x.Events {
		if e.Kind == api.EvInsn && e.Who == 1 && e.Step < point {
			came = e.Step
		}
	}
	// The same up to there; then hart 1 takes a step but once.
	held := free
	held.Picks = append(slices.Clone(free.Picks[:came+1]), make([]int, 400)...)
	held.Picks[came+100] = 1
	x = watched(t, c, files, held).Lives[0]
	return came, calls(x, number)[0].Step, x
}

// Example 2 of the whole: a munmap is told when the other hart has forgotten the page, and not ahead of it.
func TestMunmapWaitsForHarts(t *testing.T) {
	c := plain(2)
	text := strings.Replace(shared, "%s", "li r1, 12\nli r2, 128\nli r12, 8\nshl r2, r12\nli r3, 1\n", 1)
	came, told, x := barrier(t, c, text, api.CallMunmap)
	if told != came+101 || results(x, api.CallMunmap)[0] != 0 {
		t.Error("told in step", told, "came in", came)
	}
	// Behind it the reader's page is not there.
	x = watched(t, c, alone(t, text), steady(c, 400)).Lives[0]
	last := x.Events[len(x.Events)-1]
	if last.Kind != api.EvInsn || last.Who != 2 || len(x.Procs) != 0 {
		t.Errorf("%+v %v", last, x.Procs)
	}
}

// A fork is told when nobody can write to what both have; of pages that nobody has written there is nothing to be forgotten.
func TestForkWaitsForHarts(t *testing.T) {
	c := plain(2)
	came, told, _ := barrier(t, c, strings.Replace(shared, "%s", "li r1, 2\n", 1), api.CallFork)
	if told != came+101 {
		t.Error("told in step", told, "came in", came)
	}
}

// Alone on its hart nobody waits.
func TestSettledAtOnce(t *testing.T) {
	c := plain(2)
	x := watched(t, c, alone(t, "li r1, 2\nsys\nli r1, 12\nli r2, 5120\nli r3, 1\nsys\n"+spin), api.Life{Steps: 60, Stop: -1}).Lives[0]
	var last api.Event
	n := 0
	for _, e := range x.Events {
		if e.Kind == api.EvCall && e.Who == 1 {
			if e.Step != last.Step+2 || e.Result < 0 {
				t.Errorf("%+v behind %+v", e, last)
			}
			n++
		}
		if e.Who == 1 {
			last = e
		}
	}
	if n != 2 {
		t.Error(n, "calls")
	}
}

// While somebody changes a space the others of its process wait, and go on then.
func TestOthersWaitForTheLock(t *testing.T) {
	c := plain(2)
	text := strings.Replace(shared, "%s", "li r1, 2\n", 1)
	text = strings.Replace(text, "again:", "again: sw r14, 8(r11)\n", 1)
	came, told, x := barrier(t, c, text, api.CallFork)
	if told != came+101 {
		t.Error("told in step", told, "came in", came)
	}
	for _, e := range x.Events {
		if e.Who == 2 && e.Step > came && e.Step < told {
			t.Errorf("while a fork is on its way: %+v", e)
		}
	}
}

// Nobody stands still because who holds the lock stands behind him: who can only try again gives way.
func TestWayIsGivenToWhoHoldsTheLock(t *testing.T) {
	c := plain(2)
	for name, does := range map[string]string{"a store": "again: sw r12, 8(r11)", "a call": "again: li r1, 11\n\tli r2, 1\n\tsys"} {
		// The third thread stands behind the first one, on hart 0; the second one reads, on hart 1.
		text := strings.Replace(shared, "%s", "li r1, 6\n\tli r2, third\n\tsys\n\tli r1, 2", 1) + "third: li r11, 5120\n" + strings.Replace(does, "again", "more", 1) + "\n\tjal r5, more\n"
		files := alone(t, text)
		x := watched(t, c, files, steady(c, 400)).Lives[0]
		came := 0
		point := calls(x, api.CallFork)[0].Step
		for _, e := range x.Events {
			if e.Kind == api.EvInsn && e.Who == 1 && e.Step < point {
				came = e.Step
			}
		}
		// The first one comes in, and forks; then, by a tick, it stands behind the third, and no tick comes any more.
		l := steady(c, 400)
		l.Picks = append(l.Picks[:came+1], 0, 0, 0, 0, 0, 0, 0, 0, 0, 0, 0, 0, 0, 0, 0)
		for i := range 300 {
			l.Picks = append(l.Picks, i%2)
		}
		l.Ticks = []api.Tick{{Step: came + 3, Hart: 0}}
		x = watched(t, c, files, l).Lives[0]
		forks := calls(x, api.CallFork)
		if len(forks) != 1 || forks[0].Step < came+15 || forks[0].Step > came+40 {
			t.Errorf("%s: %+v, came in %d", name, forks, came)
		}
		if !slices.ContainsFunc(x.Events, func(e api.Event) bool { return e.Who == 3 && e.Step > came+3 && e.Step < came+16 }) {
			t.Errorf("%s: the third thread did nothing meanwhile", name)
		}
	}
}

// While a page is on its way out of a space no other thread's call looks at that space; calls that do not need it go on.
func TestCallsWaitForTheLock(t *testing.T) {
	c := plain(3)
	text := `
	li r1, 11
	li r2, 1
	sys
	li r1, 6
	li r2, reader
	sys
	li r1, 6
	li r2, caller
	sys
	li r11, 5120
	li r10, 128
	li r12, 8
	shl r10, r12
wait: lw r12, 0(r11)
	beq r12, r0, wait
	sw r12, 4(r11)
	li r1, 12
	li r2, 0
	add r2, r10
	li r3, 1
	sys
here: jal r5, here
reader: li r11, 5120
	li r10, 128
	li r12, 8
	shl r10, r12
	lw r13, 0(r10)
	li r12, 1
	sw r12, 0(r11)
reads: lw r13, 12(r11)
	jal r5, reads
caller: li r11, 5120
polls: lw r12, 4(r11)
	beq r12, r0, polls
	%s
	li r1, %n
	sys
	jal r5, here
`
	for number, x := range map[int]struct {
		args   string
		waits  bool
		result int32
	}{
		api.CallFork:   {"", true, 2},
		api.CallWait:   {"li r2, 0", true, -api.ECHILD},
		api.CallFwait:  {"li r2, 5120\nli r3, 7", true, -api.EAGAIN},
		api.CallMmap:   {"li r2, 1", true, 0x8000},
		api.CallMunmap: {"li r2, 5376\nli r3, 1", true, 0},
		api.CallOpen:   {"li r2, @/\nli r3, 0", true, 2},
		api.CallRead:   {"li r2, 0\nli r3, 5120\nli r4, 0", true, 0},
		api.CallWrite:  {"li r2, 1\nli r3, 5120\nli r4, 1", true, 1},
		api.CallPipe:   {"li r2, 5376", true, 0},
		api.CallMkdir:  {"li r2, @/a\n", true, 0},
		api.CallUnlink: {"li r2, @/a\n", true, -api.ENOENT},
		api.CallLink:   {"li r2, @/a\nli r3, @/b\n", true, -api.ENOENT},
		api.CallRename: {"li r2, @/a\nli r3, @/b\n", true, -api.ENOENT},
		api.CallExec:   {"li r2, @/a\n", true, -api.EBUSY},
		api.CallGettid: {"", false, 3},
		api.CallDup:    {"li r2, 1", false, 2},
		api.CallSync:   {"", false, 0},
		api.CallSpawn:  {"li r2, here\n", false, 4},
	} {
		files := alone(t, spelt(strings.NewReplacer("%s", x.args+"\n", "%n", strconv.Itoa(number)).Replace(text)))
		life := watched(t, c, files, steady(c, 600)).Lives[0]
		came := 0
		point := slices.IndexFunc(life.Events, func(e api.Event) bool { return e.Kind == api.EvCall && e.Call == api.CallMunmap && e.Who == 1 })
		for _, e := range life.Events[:point] {
			if e.Kind == api.EvInsn && e.Who == 1 {
				came = e.Step
			}
		}
		// The first one comes in, and takes the page away; the third one goes on, and the second one's hart does not; then all do.
		l := steady(c, 600)
		l.Picks = append(l.Picks[:came+1], 0, 0)
		l.Picks = append(l.Picks, slices.Repeat([]int{2}, 100)...)
		for i := range 400 {
			l.Picks = append(l.Picks, (i+1)%3)
		}
		life = watched(t, c, files, l).Lives[0]
		told := calls(life, number)
		at := slices.IndexFunc(told, func(e api.Event) bool { return e.Who == 3 })
		if at < 0 || told[at].Result != x.result {
			t.Fatalf("%d: %+v", number, told)
		}
		if waited := told[at].Step > came+103; waited != x.waits {
			t.Errorf("%d: told in step %d, came in %d", number, told[at].Step, came)
		}
	}
}
