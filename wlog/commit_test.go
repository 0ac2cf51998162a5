package wlog_test

import (
	"bytes"
	"math"
	"slices"
	"testing"

	"parapet/api"
	"parapet/wlog"
)

// P16.5

func TestStart(t *testing.T) {
	l, _ := make1(t)
	starts(t, l, false)
	tells(t, l.Begin, api.OK)
	starts(t, l, false)
	writes(t, l, 7, 'a')
	starts(t, l, false)
	tells(t, l.End, api.OK)
	if l.Running() {
		t.Error("Running")
	}
	starts(t, l, true)
	for l.Running() {
		starts(t, l, false)
		l.Step()
	}
	starts(t, l, false)
	writes(t, l, 7, 'a')
	starts(t, l, true)
}

func TestStartOfAnAbortedGroup(t *testing.T) {
	l, _ := make1(t)
	tells(t, l.Begin, api.OK)
	writes(t, l, 7, 'a')
	tells(t, l.Abort, api.OK)
	starts(t, l, false)
	commits(t, l, 0)
}

func TestStepOfNone(t *testing.T) {
	l, d := make1(t)
	none := func() {
		t.Helper()
		if on, e := l.Step(); on || e != api.ErrNone {
			t.Error("Step", on, e)
		}
	}
	none()
	writes(t, l, 7, 'a')
	none()
	tells(t, l.Begin, api.OK)
	none()
	tells(t, l.End, api.OK)
	commits(t, l, 8)
	none()
	if _, w, f := d.Counts(); w != 1+4 || f != 1+4 {
		t.Error("Counts", w, f)
	}
}

// state is how a disk and a log stand behind a step.
type state struct {
	pending    []int
	flushes    int
	generation uint64
}

// Example 1, with a second write of a block, which changes nothing of the order.
func TestStepsOfTwoBlocks(t *testing.T) {
	l, d := make1(t)
	writes(t, l, 7, 'x')
	writes(t, l, 9, 'b')
	writes(t, l, 7, 'a')
	starts(t, l, true)
	for i, want := range []state{
		{[]int{2}, 0, 0}, {[]int{2, 3}, 0, 0}, {nil, 1, 0},
		{[]int{1}, 1, 1}, {nil, 2, 1},
		{[]int{7}, 2, 1}, {[]int{7, 9}, 2, 1}, {nil, 3, 1},
		{[]int{1}, 3, 1}, {nil, 4, 1},
	} {
		holds(t, l, 1, 7, 9)
		reads(t, l, 7, 'a')
		if i < 9 {
			steps(t, l, 1)
		} else {
			ends(t, l)
		}
		_, _, f := d.Counts()
		if p := d.Pending(); !slices.Equal(p, want.pending) || f-1 != want.flushes || l.Generation() != want.generation {
			t.Error("step", i+1, p, f-1, l.Generation())
		}
		b, _ := d.Read(1)
		switch {
		case i < 3 || i >= 8:
			if !bytes.Equal(b, head(want.generation)) {
				t.Error("the header behind step", i+1, b[:16])
			}
		default:
			if !bytes.Equal(b, head(1, 7, 9)) {
				t.Error("the header behind step", i+1, b[:16])
			}
		}
	}
	holds(t, l, 3)
	for n, x := range map[int]byte{2: 'a', 3: 'b', 7: 'a', 9: 'b', 0: 1, 4: 5, 5: 6, 6: 7, 8: 9} {
		diskReads(t, d, n, of(x))
	}
}

func TestWhileACommitRuns(t *testing.T) {
	l, _ := make1(t)
	writes(t, l, 7, 'a')
	writes(t, l, 9, 'b')
	starts(t, l, true)
	for l.Running() {
		for _, n := range []int{7, 9, 5} {
			if e := l.Write(n, of('x')); e != api.ErrBusy {
				t.Error("Write", n, e)
			}
		}
		reads(t, l, 7, 'a')
		reads(t, l, 9, 'b')
		reads(t, l, 5, 6)
		holds(t, l, 1, 7, 9)
		l.Step()
	}
	holds(t, l, 3)
	reads(t, l, 7, 'a')
	reads(t, l, 9, 'b')
}

// The group goes with the last step, and what is written to the disk then is read.
func TestGroupIsGoneBehindACommit(t *testing.T) {
	l, d := make1(t)
	writes(t, l, 7, 'a')
	starts(t, l, true)
	steps(t, l, 7)
	d.Write(7, of('x'))
	reads(t, l, 7, 'a')
	ends(t, l)
	reads(t, l, 7, 'x')
}

func TestCommit(t *testing.T) {
	l, d := make1(t)
	commits(t, l, 0)
	tells(t, l.Begin, api.OK)
	for range 2 {
		if n, e := l.Commit(); n != 0 || e != api.ErrBusy {
			t.Error("Commit", n, e)
		}
		writes(t, l, 7, 'a')
	}
	holds(t, l, 2, 7)
	tells(t, l.End, api.OK)
	commits(t, l, 8)
	holds(t, l, 3)
	diskReads(t, d, 7, of('a'))
	commits(t, l, 0)
	if l.Generation() != 1 {
		t.Error("Generation", l.Generation())
	}
}

func TestCommitOfOneThatRuns(t *testing.T) {
	for done := range 10 {
		l, d := make1(t)
		writes(t, l, 7, 'a')
		writes(t, l, 9, 'b')
		starts(t, l, true)
		steps(t, l, done)
		commits(t, l, 10-done)
		holds(t, l, 3)
		diskReads(t, d, 1, head(1))
		diskReads(t, d, 7, of('a'))
		diskReads(t, d, 9, of('b'))
		if len(d.Pending()) != 0 {
			t.Error("Pending", d.Pending())
		}
	}
}

func TestGeneration(t *testing.T) {
	l, d := make1(t)
	for g := range uint64(300) {
		if l.Generation() != g {
			t.Fatal("Generation", l.Generation(), g)
		}
		writes(t, l, 7, byte(g))
		commits(t, l, 8)
		diskReads(t, d, 1, head(g+1))
	}
	opens(t, d, 1, 4, 0, 300)
}

func TestGenerationGoesRound(t *testing.T) {
	d := makeDisk(t, 10)
	d.Write(1, head(math.MaxUint64-1))
	l := opens(t, d, 1, 4, 0, math.MaxUint64-1)
	for _, g := range []uint64{math.MaxUint64, 0, 1} {
		writes(t, l, 7, 'a')
		starts(t, l, true)
		steps(t, l, 3)
		diskReads(t, d, 1, head(g, 7))
		commits(t, l, 5)
		if l.Generation() != g {
			t.Error("Generation", l.Generation(), g)
		}
		opens(t, d.Fork(), 1, 4, 0, g)
	}
}

func TestCommitsBehindARecovery(t *testing.T) {
	d := recovering(t, 40)
	l := opens(t, d, 1, 4, 2, 40)
	writes(t, l, 9, 'x')
	writes(t, l, 5, 'y')
	commits(t, l, 10)
	m := opens(t, d, 1, 4, 0, 41)
	reads(t, m, 9, 'x')
	reads(t, m, 5, 'y')
	reads(t, m, 0, 'b')
}

// A log goes on without power as with it, and tells the same.
func TestLogWithoutPower(t *testing.T) {
	d := makeDisk(t, 10)
	d.Stop(0)
	l := format(t, d, 1, 4)
	if l.Generation() != 0 {
		t.Error("Generation", l.Generation())
	}
	tells(t, l.Begin, api.OK)
	writes(t, l, 7, 'a')
	tells(t, l.End, api.OK)
	starts(t, l, true)
	steps(t, l, 7)
	reads(t, l, 7, 'a')
	ends(t, l)
	if l.Generation() != 1 {
		t.Error("Generation", l.Generation())
	}
	reads(t, l, 7, 8)
	writes(t, l, 7, 'a')
	commits(t, l, 8)
	holds(t, l, 3)
	diskReads(t, d, 1, of(2))
	if _, w, f := d.Counts(); w+f != 0 {
		t.Error("Counts", w, f)
	}
	e := recovering(t, 40)
	e.Stop(0)
	m := opens(t, e, 1, 4, 2, 40)
	reads(t, m, 9, 10)
}

// Two logs on one disk do not touch one another.
func TestTwoLogs(t *testing.T) {
	d := makeDisk(t, 12)
	a, b := format(t, d, 0, 3), format(t, d, 9, 3)
	writes(t, a, 5, 'a')
	writes(t, b, 5, 'b')
	reads(t, a, 5, 'a')
	reads(t, b, 5, 'b')
	commits(t, a, 8)
	reads(t, b, 5, 'b')
	commits(t, b, 8)
	reads(t, a, 5, 'b')
	opens(t, d, 0, 3, 0, 1)
	opens(t, d, 9, 3, 0, 1)
}

func TestLogIsAStore(t *testing.T) {
	l, _ := make1(t)
	var s api.Store = l
	if e := s.Write(7, of('a')); e != api.OK {
		t.Error("Write", e)
	}
	reads(t, l, 7, 'a')
	var _ api.Store = (*wlog.Log)(nil)
}
