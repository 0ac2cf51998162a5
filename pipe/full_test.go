package pipe

import (
	"testing"

	"parapet/api"
)

// P21.1: nobody waits for an end to be held 2^31 - 1 times, so this is told how often from inside.
func TestOpenBeyondTheMost(t *testing.T) {
	for _, write := range []bool{false, true} {
		p := New()
		*p.end(write) = 1<<31 - 2
		for _, want := range []api.Errno{api.OK, api.ErrFull, api.ErrFull} {
			if e := p.Open(write); e != want || *p.end(write) != 1<<31-1 || *p.end(!write) != 1 {
				t.Error("Open", write, e)
			}
		}
		if e := p.Open(!write); e != api.OK || *p.end(!write) != 2 {
			t.Error("Open of the other end", e)
		}
		if last, e := p.Close(write); last || e != api.OK {
			t.Error("Close", last, e)
		}
		if e := p.Open(write); e != api.OK || *p.end(write) != 1<<31-1 {
			t.Error("Open behind a Close", e)
		}
	}
}
