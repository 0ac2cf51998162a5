package tlb

import (
	"testing"

	"parapet/api"
)

// P7.2: nobody waits for 2^31 - 1 shootdowns to be begun, so this is told how many were from inside.
func TestStartBeyondTheMost(t *testing.T) {
	x, _ := New(2, 1)
	x.begun = 1<<31 - 3
	for _, want := range []int{1<<31 - 2, 1<<31 - 1} {
		if id, e := x.Start(1, []int{0}); id != want || e != api.OK {
			t.Error("Start", id, e)
		}
	}
	for _, targets := range [][]int{nil, {0}, {1, 0}} {
		if id, e := x.Start(1, targets); id != 0 || e != api.ErrFull {
			t.Error("Start beyond the most", targets, id, e)
		}
	}
	for _, targets := range [][]int{{2}, {-1}, {1, 1}} {
		if id, e := x.Start(1, targets); id != 0 || e != api.ErrArg {
			t.Error("Start of no target, beyond the most", targets, id, e)
		}
	}
	if n := x.Open(); n != 2 || x.Over(1<<31-1) || x.Over(1<<31) || len(x.Pending(1)) != 0 {
		t.Error("something has changed", n)
	}
	if n := x.Handle(0); n != 2 || !x.Over(1<<31-1) || x.Over(1<<31) || x.Open() != 0 {
		t.Error("Handle", n)
	}
	if _, e := x.Start(1, nil); e != api.ErrFull {
		t.Error("Start, when all are over", e)
	}
}
