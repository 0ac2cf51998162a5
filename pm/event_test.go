package pm_test

import (
	"math"
	"strings"
	"testing"

	"parapet/api"
)

// P25.2: instructions.

// Example 1.
func TestExample(t *testing.T) {
	r := rigged(t, program(t, "li r1, 1\nsys"))
	r.steps(1, 2)
	r.refuses(api.Event{Kind: api.EvInsn, Who: 1})
	r.does(api.Event{Kind: api.EvCall, Who: 1, Call: api.CallExit})
	if !r.w.Halted() || r.w.Procs() != nil || r.w.Threads() != nil {
		t.Error("the world goes on")
	}
	if b, ok := r.w.Page(1, 0); b != nil || ok {
		t.Error("Page of who has ended")
	}
	if l := r.w.Tree(); len(l) != 1 || l[0].Path != "/init" {
		t.Error("Tree", l)
	}
	for kind := range 8 {
		for _, x := range []int32{0, -9} {
			r.refuses(api.Event{Kind: kind, Who: 1, Call: 1, Result: x, Bytes: "x"})
		}
	}
}

// Each instruction does what layer 3 says, and what it asks of the memory is done at once.
func TestInstructions(t *testing.T) {
	r := rigged(t, program(t, `
li r1, 256
li r2, -2
sw r2, 4(r1)
lw r3, 4(r1)
lb r4, 5(r1)
li r5, 0x1234
sb r5, 6(r1)
lw r6, 4(r1)
li r15, 7
cas r5, 8(r1)
li r15, 0
cas r5, 8(r1)
lw r7, 8(r1)
lb r8, 511(r0)
sb r5, 513(r0)
beq r7, r5, there
li r9, 1
there: jal r10, over
li r9, 1
over: divu r5, r0
jalr r11, 88(r0)
li r9, 1
li r12, 3`))
	r.steps(1, 22-3)
	want := api.Cpu{PC: 88}
	want.R = [16]uint32{1: 256, 2: 0xfffffffe, 3: 0xfffffffe, 4: 0xff, 5: 0xffffffff, 6: 0xff34fffe, 7: 0x1234, 10: 72, 11: 84}
	if x := r.thread(1); x.Cpu != want || x.State != api.ThreadUser {
		t.Errorf("%+v", x)
	}
	r.holds(1, 260, "\xfe\xff\x34\xff\x34\x12\x00\x00")
	r.holds(1, 513, "\x34")
	r.steps(1, 1)
	if x := r.thread(1); x.Cpu.R[12] != 3 {
		t.Errorf("%+v", x)
	}
}

// A compare-and-set that finds something else stores nothing, and tells it.
func TestCas(t *testing.T) {
	r := rigged(t, program(t, "li r1, 5\nli r15, 1\ncas r1, 256(r0)\nli r15, 0\ncas r1, 256(r0)\nli r1, 6\nli r15, 4\ncas r1, 256(r0)"))
	r.steps(1, 3)
	r.holds(1, 256, "\x00")
	if x := r.thread(1).Cpu.R[15]; x != 0 {
		t.Error("what was there:", x)
	}
	r.steps(1, 2)
	r.holds(1, 256, "\x05")
	r.steps(1, 3)
	r.holds(1, 256, "\x05")
	if x := r.thread(1).Cpu.R[15]; x != 5 {
		t.Error("what was there:", x)
	}
}

// falls holds that the last instruction of a child's program ends it with a code; the program's pages are 0 and two of zeros.
func falls(t *testing.T, text string, steps int, code int32) {
	t.Helper()
	r := rigged(t, program(t, "li r1, 2\nsys\nbne r1, r0, 0\n"+text))
	r.steps(1, 2)
	r.does(api.Event{Kind: api.EvCall, Who: 1, Call: api.CallFork, Result: 2})
	r.steps(2, steps)
	r.process(api.Process{Pid: 2, Parent: 1})
	was := r.memory(1)
	r.steps(2, 1)
	if len(r.w.Threads()) != 1 {
		t.Error(text, "a thread is left")
	}
	r.process(api.Process{Pid: 2, Parent: 1, Zombie: true, Code: code})
	r.process(api.Process{Pid: 1})
	if b, ok := r.w.Page(2, 0); b != nil || ok {
		t.Error(text, "a page is left")
	}
	if string(was) != string(r.memory(1)) {
		t.Error(text, "another one's memory")
	}
	r.refuses(api.Event{Kind: api.EvInsn, Who: 2})
}

func TestFaults(t *testing.T) {
	for _, x := range []struct {
		text  string
		steps int
		code  int32
	}{
		{".word 0", 1, -4}, {".word 29", 1, -4}, {".word 0xffffffff", 1, -4},
		{"jalr r2, 2(r0)", 2, -11}, {"jalr r2, 1(r0)", 2, -11}, {"jalr r2, 768(r0)", 2, -11}, {"jalr r2, -4(r0)", 2, -11}, {"lui r2, 1\njalr r3, 0(r2)", 3, -11},
		{"jalr r2, 256(r0)", 2, -4},
		{"lw r2, 768(r0)", 1, -11}, {"sw r2, 768(r0)", 1, -11}, {"lb r2, 768(r0)", 1, -11}, {"sb r2, 768(r0)", 1, -11}, {"cas r2, 768(r0)", 1, -11},
		{"lw r2, 257(r0)", 1, -11}, {"sw r2, 258(r0)", 1, -11}, {"cas r2, 259(r0)", 1, -11}, {"lw r2, 767(r0)", 1, -11},
		{"lw r2, -4(r0)", 1, -11}, {"sb r2, -1(r0)", 1, -11}, {"lui r3, 1\nlw r2, 256(r3)", 2, -11}, {"lui r3, 1\nsb r2, 256(r3)", 2, -11},
		{"lw r2, 764(r0)\nlb r2, 767(r0)\nsw r2, 764(r0)\nsb r2, 767(r0)\ncas r2, 512(r0)\n.word 0", 6, -4},
	} {
		// A branch that is not taken is a step of its own.
		falls(t, x.text, x.steps, x.code)
	}
}

// A call's number and arguments stand in registers, and PC behind it.
func TestCallInstruction(t *testing.T) {
	r := rigged(t, program(t, "li r1, 5\nli r2, 6\nsys"))
	r.steps(1, 3)
	want := api.Cpu{PC: 12}
	want.R[1], want.R[2] = 5, 6
	if x := r.thread(1); x.Cpu != want || x.State != api.ThreadCall {
		t.Errorf("%+v", x)
	}
	r.told(1, 1)
}

// The world halts by an instruction of the process 1, too.
func TestInitFalls(t *testing.T) {
	r := rigged(t, program(t, "li r1, 2\nsys\n.word 0"))
	r.steps(1, 2)
	r.does(api.Event{Kind: api.EvCall, Who: 1, Call: api.CallFork, Result: 2})
	r.steps(1, 1)
	if !r.w.Halted() || r.w.Procs() != nil || r.w.Threads() != nil {
		t.Error("the world goes on")
	}
	r.refuses(api.Event{Kind: api.EvInsn, Who: 2})
}

// P25.2, P25.6: events that can't be.

func TestEventsThatCanNotBe(t *testing.T) {
	r := busy(t) // 1 in user mode, 2 in a call wait, 3 sleeps, 4 was woken, 5 has ended; process 3 is a zombie
	for _, n := range []int{0, -1, 7, 99, math.MinInt, math.MaxInt} {
		for _, kind := range []int{api.EvInsn, api.EvCall, api.EvSleep, api.EvKill, 0, -1, 7, math.MinInt, math.MaxInt} {
			for _, result := range []int32{0, -9, -12} {
				r.refuses(api.Event{Kind: kind, Who: n, Call: api.CallFwait, Result: result})
			}
		}
	}
	for _, kind := range []int{0, -1, 7, math.MinInt, math.MaxInt} {
		r.refuses(api.Event{Kind: kind, Who: 1})
	}
	for _, tid := range []int{2, 3, 4, 5} {
		r.refuses(api.Event{Kind: api.EvInsn, Who: tid})
	}
	for _, tid := range []int{1, 3, 5} {
		for call := range 32 {
			for _, result := range []int32{0, 1, -12, -38} {
				r.refuses(api.Event{Kind: api.EvCall, Who: tid, Call: call, Result: result})
			}
		}
	}
	for _, tid := range []int{1, 2, 3, 4, 5} {
		for call := range 32 {
			r.refuses(api.Event{Kind: api.EvSleep, Who: tid, Call: call})
		}
	}
	for _, call := range []int{0, -3, 2, 4, 31, math.MinInt, math.MaxInt} {
		for _, result := range []int32{0, 3, -12, -38} {
			r.refuses(api.Event{Kind: api.EvCall, Who: 2, Call: call, Result: result})
		}
	}
}

// Of a number that is none only ENOSYS is told, and Call is that number, or 0.
func TestNumbersOfNoCall(t *testing.T) {
	r := obeys(t)
	for _, n := range []uint32{0, 31, 32, 1000, 1<<31 - 1, 1 << 31, 1<<32 - 1} {
		r.asks(1, n, 1, 2, 3)
		r.only(1, -38, false)
		call := int(n)
		if n >= 1<<31 {
			call = 0
			r.refuses(api.Event{Kind: api.EvCall, Who: 1, Call: int(n), Result: -38})
			r.refuses(api.Event{Kind: api.EvCall, Who: 1, Call: int(int32(n)), Result: -38})
		}
		r.does(api.Event{Kind: api.EvCall, Who: 1, Call: call, Result: -38})
		if x := r.thread(1); x.Cpu.R[1] != 1<<32-38 || x.State != api.ThreadUser {
			t.Error("behind it", x)
		}
	}
}

func TestKills(t *testing.T) {
	r := obeys(t)
	r.forks(1, 2)
	r.forks(1, 3)
	r.forks(2, 4)
	for _, code := range []int32{0, -1, -4, -8, -10, -11, -13, 9, 12, math.MinInt32, math.MaxInt32} {
		r.refuses(api.Event{Kind: api.EvKill, Who: 2, Result: code})
	}
	r.does(api.Event{Kind: api.EvKill, Who: 2, Result: -12})
	r.process(api.Process{Pid: 2, Parent: 1, Zombie: true, Code: -12})
	r.process(api.Process{Pid: 4, Parent: 1})
	r.refuses(api.Event{Kind: api.EvKill, Who: 2, Result: -9})
	r.asks(3, api.CallGetpid, 0, 0, 0)
	r.does(api.Event{Kind: api.EvKill, Who: 3, Result: -9})
	r.process(api.Process{Pid: 3, Parent: 1, Zombie: true, Code: -9})
	r.refuses(api.Event{Kind: api.EvCall, Who: 3, Call: api.CallGetpid, Result: 3})
	r.calls(1, 2, api.CallWait, 0)
	r.refuses(api.Event{Kind: api.EvKill, Who: 2, Result: -9})
	r.does(api.Event{Kind: api.EvKill, Who: 1, Result: -9})
	if !r.w.Halted() || r.w.Procs() != nil || r.w.Threads() != nil {
		t.Error("the world goes on")
	}
}

func TestInput(t *testing.T) {
	r := obeys(t)
	r.asks(1, api.CallRead, 0, data, 4)
	r.waits(1)
	r.types("")
	r.waits(1)
	r.types("ab")
	r.types("cde")
	r.told(1, 4)
	r.holds(1, data, "abcd\x00")
	r.runs(1)
	r.told(1, 1)
	r.steps(1, 6)
	r.told(1, -38)
	half := strings.Repeat("x", 1<<15)
	r.types(half)
	r.refuses(api.Event{Kind: api.EvInput, Bytes: half + "x"})
	r.types(half)
	r.types("")
	r.refuses(api.Event{Kind: api.EvInput, Bytes: "x"})
	r.runs(1)
	r.told(1, 16)
	r.types(half[:16])
	r.refuses(api.Event{Kind: api.EvInput, Bytes: "x"})
	r.does(api.Event{Kind: api.EvEnd})
	r.refuses(api.Event{Kind: api.EvInput, Bytes: "x"})
	r.refuses(api.Event{Kind: api.EvInput})
	r.does(api.Event{Kind: api.EvEnd})
	r.refuses(api.Event{Kind: api.EvInput})
}

// What came is read behind the end of it, too.
func TestEnd(t *testing.T) {
	r := obeys(t)
	r.asks(1, api.CallRead, 0, data, 4)
	r.types("abcdef")
	r.does(api.Event{Kind: api.EvEnd})
	r.told(1, 4)
	r.runs(1)
	r.told(1, 2)
	r.steps(1, 6)
	r.told(1, -38)
	r.runs(1)
	r.told(1, 0)
}

// Fields that an event of a kind has not are nobody's.
func TestOtherFields(t *testing.T) {
	r := obeys(t)
	r.does(api.Event{Kind: api.EvInsn, Step: -5, Hart: 99, Who: 1, Call: 7, Result: 8, Bytes: "x"})
	r.runs(1)
	r.does(api.Event{Kind: api.EvInput, Who: 77, Call: 3, Result: 4, Bytes: strings.Repeat("\x00", 16)})
	r.does(api.Event{Kind: api.EvCall, Step: 9, Hart: -1, Who: 1, Call: api.CallRead, Result: 16, Bytes: "x"})
}
