package rcu_test

import (
	"math"
	"slices"
	"testing"

	"parapet/api"
	"parapet/rcu"
)

var noHarts = []int{math.MinInt, -1, 3, 7, 8, math.MaxInt}

func make1(t *testing.T, harts int) *rcu.Domain {
	t.Helper()
	d, e := rcu.New(harts)
	if e != api.OK || d == nil {
		t.Fatal("New", harts, d, e)
	}
	return d
}

func enters(t *testing.T, d *rcu.Domain, harts ...int) {
	t.Helper()
	for _, hart := range harts {
		if e := d.Enter(hart); e != api.OK {
			t.Fatalf("Enter(%d): %v", hart, e)
		}
	}
}

func leaves(t *testing.T, d *rcu.Domain, harts ...int) {
	t.Helper()
	for _, hart := range harts {
		if e := d.Leave(hart); e != api.OK {
			t.Fatalf("Leave(%d): %v", hart, e)
		}
	}
}

// passes holds that each of the harts may say that it passes.
func passes(t *testing.T, d *rcu.Domain, harts ...int) {
	t.Helper()
	for _, hart := range harts {
		if !d.Pass(hart) {
			t.Fatalf("Pass(%d)", hart)
		}
	}
}

// inside holds in how many sections each hart is.
func inside(t *testing.T, d *rcu.Domain, want ...int) {
	t.Helper()
	for hart, n := range want {
		if got := d.Inside(hart); got != n {
			t.Errorf("Inside(%d): %d, not %d", hart, got, n)
		}
	}
}

// steps holds that the epoch goes on, and is so much then.
func steps(t *testing.T, d *rcu.Domain, want int) {
	t.Helper()
	if !d.Step() || d.Epoch() != want {
		t.Fatalf("Step: the epoch is %d, not %d", d.Epoch(), want)
	}
}

// stays holds that the epoch does not go on.
func stays(t *testing.T, d *rcu.Domain) {
	t.Helper()
	was := d.Epoch()
	if d.Step() || d.Epoch() != was {
		t.Fatalf("Step: the epoch is %d, and was %d", d.Epoch(), was)
	}
}

func defers(t *testing.T, d *rcu.Domain, ids ...int) {
	t.Helper()
	for _, id := range ids {
		if e := d.Defer(id); e != api.OK {
			t.Fatalf("Defer(%d): %v", id, e)
		}
	}
}

func waits(t *testing.T, d *rcu.Domain, want ...int) {
	t.Helper()
	if l := d.Waiting(); !slices.Equal(l, want) {
		t.Errorf("Waiting: %v, not %v", l, want)
	}
}

// ready holds what may be freed, and that it is told once.
func ready(t *testing.T, d *rcu.Domain, want ...int) {
	t.Helper()
	if l := d.Ready(); !slices.Equal(l, want) {
		t.Errorf("Ready: %v, not %v", l, want)
	}
	if l := d.Ready(); len(l) != 0 {
		t.Error("Ready, told anew", l)
	}
}

// P10.1

func TestNew(t *testing.T) {
	for _, harts := range []int{math.MinInt, -1, 0, 9, 64, math.MaxInt} {
		if d, e := rcu.New(harts); d != nil || e != api.ErrArg {
			t.Error("New", harts, d, e)
		}
	}
	for harts := 1; harts <= api.MaxHarts; harts++ {
		d := make1(t, harts)
		if d.Epoch() != 0 {
			t.Error("Epoch", d.Epoch())
		}
		waits(t, d)
		ready(t, d)
		for hart := range api.MaxHarts + 1 {
			want := api.OK
			if hart >= harts {
				want = api.ErrArg
			}
			if e := d.Enter(hart); e != want {
				t.Error(harts, "harts, Enter", hart, e)
			}
			if n := d.Inside(hart); n == 1 != (want == api.OK) {
				t.Error(harts, "harts, Inside", hart, n)
			}
		}
	}
}

func TestNoHarts(t *testing.T) {
	d := make1(t, 3)
	steps(t, d, 1)
	enters(t, d, 1)
	for _, hart := range noHarts {
		if e := d.Enter(hart); e != api.ErrArg {
			t.Error("Enter", hart, e)
		}
		if e := d.Leave(hart); e != api.ErrArg {
			t.Error("Leave", hart, e)
		}
		if d.Pass(hart) || d.Inside(hart) != 0 {
			t.Error("Pass, Inside", hart)
		}
	}
	inside(t, d, 0, 1, 0)
	stays(t, d)
}

func TestSectionsLieInOneAnother(t *testing.T) {
	d := make1(t, 3)
	for n := range 16 {
		inside(t, d, 0, n, 0)
		enters(t, d, 1)
	}
	for range 2 {
		if e := d.Enter(1); e != api.ErrFull {
			t.Error("Enter of one more", e)
		}
		inside(t, d, 0, 16, 0)
	}
	enters(t, d, 0)
	inside(t, d, 1, 16, 0)
	for n := 16; n > 0; n-- {
		inside(t, d, 1, n, 0)
		leaves(t, d, 1)
	}
	for _, hart := range []int{1, 2} {
		if e := d.Leave(hart); e != api.ErrNone {
			t.Error("Leave of none", hart, e)
		}
	}
	inside(t, d, 1, 0, 0)
	enters(t, d, 1)
	inside(t, d, 1, 1, 0)
}

// It is the outermost section that counts: a hart that leaves it passes, and one that leaves another does not.
func TestWhoLeavesPasses(t *testing.T) {
	d := make1(t, 1)
	enters(t, d, 0, 0, 0)
	steps(t, d, 1)
	leaves(t, d, 0)
	stays(t, d)
	leaves(t, d, 0)
	stays(t, d)
	enters(t, d, 0)
	leaves(t, d, 0)
	stays(t, d)
	leaves(t, d, 0)
	steps(t, d, 2)
	if e := d.Leave(0); e != api.ErrNone {
		t.Error("Leave", e)
	}
	stays(t, d)
}

func TestPass(t *testing.T) {
	d := make1(t, 2)
	steps(t, d, 1)
	enters(t, d, 0)
	passes(t, d, 1)
	for range 2 {
		if d.Pass(0) {
			t.Error("Pass in a section")
		}
		stays(t, d)
	}
	leaves(t, d, 0)
	passes(t, d, 0, 1, 0)
	steps(t, d, 2)
	stays(t, d)
	passes(t, d, 0)
	stays(t, d)
	// Who has passed an epoch has passed it, though it enters a section then.
	enters(t, d, 0)
	passes(t, d, 1)
	steps(t, d, 3)
	passes(t, d, 1)
	stays(t, d)
}

// P10.2

func TestStep(t *testing.T) {
	for harts := 1; harts <= api.MaxHarts; harts++ {
		d := make1(t, harts)
		steps(t, d, 1)
		for epoch := 2; epoch < 6; epoch++ {
			for i := range harts {
				stays(t, d)
				passes(t, d, (i+epoch)%harts)
			}
			steps(t, d, epoch)
		}
	}
}

// goesOn lets all harts of two pass, and the epoch go on.
func goesOn(t *testing.T, d *rcu.Domain) {
	t.Helper()
	passes(t, d, 0, 1)
	steps(t, d, d.Epoch()+1)
}

func TestDefer(t *testing.T) {
	d := make1(t, 2)
	defers(t, d, 7, -3, math.MaxInt, 0, math.MinInt)
	waits(t, d, 7, -3, math.MaxInt, 0, math.MinInt)
	for _, id := range []int{7, -3, math.MaxInt, 0, math.MinInt} {
		if e := d.Defer(id); e != api.ErrTwice {
			t.Error("Defer", id, e)
		}
	}
	ready(t, d)
	goesOn(t, d)
	defers(t, d, 5, 1)
	if e := d.Defer(7); e != api.ErrTwice {
		t.Error("Defer in the next epoch", e)
	}
	ready(t, d)
	goesOn(t, d)
	// What may be freed waits till somebody asks for it.
	if e := d.Defer(7); e != api.ErrTwice {
		t.Error("Defer of what may be freed", e)
	}
	waits(t, d, 7, -3, math.MaxInt, 0, math.MinInt, 5, 1)
	ready(t, d, 7, -3, math.MaxInt, 0, math.MinInt)
	waits(t, d, 5, 1)
	defers(t, d, 7)
	waits(t, d, 5, 1, 7)
	goesOn(t, d)
	ready(t, d, 5, 1)
	waits(t, d, 7)
	goesOn(t, d)
	ready(t, d, 7)
	waits(t, d)
}

func TestReadyOfSeveralEpochs(t *testing.T) {
	d := make1(t, 2)
	var want []int
	for epoch := range 5 {
		defers(t, d, 10-epoch, 20-epoch)
		want = append(want, 10-epoch, 20-epoch)
		goesOn(t, d)
	}
	waits(t, d, want...)
	ready(t, d, want[:8]...)
	waits(t, d, want[8:]...)
	goesOn(t, d)
	goesOn(t, d)
	ready(t, d, want[8:]...)
}

// Example 1.
func TestGrace(t *testing.T) {
	d := make1(t, 2)
	enters(t, d, 0)
	defers(t, d, 7)
	steps(t, d, 1)
	passes(t, d, 1)
	stays(t, d)
	ready(t, d)
	waits(t, d, 7)
	leaves(t, d, 0)
	steps(t, d, 2)
	ready(t, d, 7)
}

// P10.8
func TestItGoesOn(t *testing.T) {
	for harts := 1; harts <= api.MaxHarts; harts++ {
		for _, ahead := range []int{0, 1, 2} {
			d := make1(t, harts)
			for hart := range ahead % harts {
				enters(t, d, hart)
			}
			defers(t, d, 1)
			d.Step()
			defers(t, d, 2)
			for hart := range ahead % harts {
				leaves(t, d, hart)
			}
			for range 3 {
				for hart := range harts {
					passes(t, d, hart)
				}
				if !d.Step() {
					t.Error("Step")
				}
			}
			ready(t, d, 1, 2)
			waits(t, d)
		}
	}
}

// P10.5

func TestOfNoDomain(t *testing.T) {
	for _, d := range []*rcu.Domain{nil, {}} {
		for _, n := range []int{-1, 0, 1, 9} {
			if d.Enter(n) != api.ErrClosed || d.Leave(n) != api.ErrClosed || d.Defer(n) != api.ErrClosed {
				t.Error("Enter, Leave, Defer", n)
			}
			if d.Pass(n) || d.Inside(n) != 0 {
				t.Error("Pass, Inside", n)
			}
		}
		if d.Step() || d.Epoch() != 0 || len(d.Ready()) != 0 || len(d.Waiting()) != 0 {
			t.Error("Step, Epoch, Ready, Waiting")
		}
	}
}

// R3

func TestDomainsAnswersAreNewMemory(t *testing.T) {
	d := make1(t, 2)
	defers(t, d, 1, 2)
	goesOn(t, d)
	defers(t, d, 3, 4, 5)
	goesOn(t, d)
	l := d.Waiting()
	clear(l[:cap(l)])
	waits(t, d, 1, 2, 3, 4, 5)
	l = d.Waiting()
	m := d.Ready()
	clear(m[:cap(m)])
	waits(t, d, 3, 4, 5)
	defers(t, d, 6)
	if !slices.Equal(l, []int{1, 2, 3, 4, 5}) {
		t.Error("Waiting has changed", l)
	}
	goesOn(t, d)
	ready(t, d, 3, 4, 5)
	waits(t, d, 6)
}
