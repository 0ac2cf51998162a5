package pipe_test

import (
	"bytes"
	"math"
	"testing"

	"parapet/api"
	"parapet/pipe"
)

// types holds what a Type answers.
func types(t *testing.T, c *pipe.Console, b []byte, want api.Errno) {
	t.Helper()
	if e := c.Type(b); e != want {
		t.Fatalf("Type of %d: %v, not %v", len(b), e, want)
	}
}

// shows holds how many bytes wait, and what was written.
func shows(t *testing.T, c *pipe.Console, waiting int, output []byte) {
	t.Helper()
	if b := c.Output(); c.Waiting() != waiting || !bytes.Equal(b, output) {
		t.Errorf("Waiting: %d, not %d; Output: %d bytes, not the %d", c.Waiting(), waiting, len(b), len(output))
	}
}

// P21.3

func TestNewConsole(t *testing.T) {
	c := pipe.NewConsole()
	shows(t, c, 0, nil)
	ready(t, c, false, true)
	reads(t, c, 1, nil, api.ErrWait)
	other := pipe.NewConsole()
	types(t, c, row(0, 3), api.OK)
	writes(t, c, row(0, 2), 2, api.OK)
	c.End()
	shows(t, other, 0, nil)
	ready(t, other, false, true)
}

func TestConsoleRead(t *testing.T) {
	c := pipe.NewConsole()
	reads(t, c, -1, nil, api.ErrArg)
	reads(t, c, math.MinInt, nil, api.ErrArg)
	reads(t, c, 0, nil, api.OK)
	reads(t, c, math.MaxInt, nil, api.ErrWait)
	types(t, c, row(0, 5), api.OK)
	types(t, c, nil, api.OK)
	types(t, c, row(5, 5), api.OK)
	reads(t, c, -1, nil, api.ErrArg)
	reads(t, c, 0, nil, api.OK)
	shows(t, c, 10, nil)
	reads(t, c, 7, row(0, 7), api.OK)
	reads(t, c, 1, row(7, 1), api.OK)
	shows(t, c, 2, nil)
	types(t, c, row(10, 1), api.OK)
	reads(t, c, 4, row(8, 3), api.OK)
	shows(t, c, 0, nil)
	reads(t, c, 1, nil, api.ErrWait)
	types(t, c, row(20, 3), api.OK)
	reads(t, c, math.MaxInt, row(20, 3), api.OK)
	reads(t, c, 1, nil, api.ErrWait)
}

func TestConsoleEnd(t *testing.T) {
	c := pipe.NewConsole()
	types(t, c, row(0, 5), api.OK)
	c.End()
	types(t, c, row(0, 1), api.ErrFull)
	types(t, c, nil, api.ErrFull)
	shows(t, c, 5, nil)
	ready(t, c, true, true)
	reads(t, c, 3, row(0, 3), api.OK)
	c.End()
	reads(t, c, 3, row(3, 2), api.OK)
	reads(t, c, -1, nil, api.ErrArg)
	reads(t, c, 0, nil, api.OK)
	reads(t, c, 1, nil, api.OK)
	reads(t, c, math.MaxInt, nil, api.OK)
	ready(t, c, true, true)
	types(t, c, row(0, 1), api.ErrFull)
	writes(t, c, row(0, 4), 4, api.OK)
	shows(t, c, 0, row(0, 4))
}

func TestTypeOfTheMost(t *testing.T) {
	c := pipe.NewConsole()
	types(t, c, row(0, 1<<16+1), api.ErrFull)
	shows(t, c, 0, nil)
	reads(t, c, 1, nil, api.ErrWait)
	types(t, c, row(0, 1<<16), api.OK)
	types(t, c, nil, api.OK)
	types(t, c, row(0, 1), api.ErrFull)
	shows(t, c, 1<<16, nil)
	reads(t, c, 3, row(0, 3), api.OK)
	types(t, c, row(0, 4), api.ErrFull)
	types(t, c, row(0, 2), api.OK)
	types(t, c, row(2, 2), api.ErrFull)
	types(t, c, row(2, 1), api.OK)
	reads(t, c, 1<<20, row(3, 1<<16), api.OK)
	types(t, c, row(5, 1<<16), api.OK)
	shows(t, c, 1<<16, nil)
}

func TestConsoleWrite(t *testing.T) {
	c := pipe.NewConsole()
	writes(t, c, nil, 0, api.OK)
	writes(t, c, row(0, 3), 3, api.OK)
	writes(t, c, row(3, 700), 700, api.OK)
	writes(t, c, []byte{}, 0, api.OK)
	shows(t, c, 0, row(0, 703))
	types(t, c, row(9, 2), api.OK)
	shows(t, c, 2, row(0, 703))
	reads(t, c, 2, row(9, 2), api.OK)
	shows(t, c, 0, row(0, 703))
}

func TestConsoleWriteOfTheMost(t *testing.T) {
	c := pipe.NewConsole()
	writes(t, c, row(0, 1<<20+1), 0, api.ErrFull)
	shows(t, c, 0, nil)
	writes(t, c, row(0, 1<<20-2), 1<<20-2, api.OK)
	writes(t, c, row(0, 3), 0, api.ErrFull)
	shows(t, c, 0, row(0, 1<<20-2))
	writes(t, c, row(254, 2), 2, api.OK)
	shows(t, c, 0, row(0, 1<<20))
	ready(t, c, false, true)
	writes(t, c, row(0, 1), 0, api.ErrFull)
	writes(t, c, nil, 0, api.OK)
	shows(t, c, 0, row(0, 1<<20))
	types(t, c, row(0, 1), api.OK)
	reads(t, c, 1, row(0, 1), api.OK)

	whole := pipe.NewConsole()
	writes(t, whole, row(0, 1<<20), 1<<20, api.OK)
	shows(t, whole, 0, row(0, 1<<20))
}

func TestConsoleReady(t *testing.T) {
	c := pipe.NewConsole()
	ready(t, c, false, true)
	types(t, c, nil, api.OK)
	ready(t, c, false, true)
	types(t, c, row(0, 2), api.OK)
	ready(t, c, true, true)
	reads(t, c, 1, row(0, 1), api.OK)
	ready(t, c, true, true)
	reads(t, c, 1, row(1, 1), api.OK)
	ready(t, c, false, true)
	c.End()
	ready(t, c, true, true)
}

// P21.4

func TestNilConsole(t *testing.T) {
	for _, c := range []*pipe.Console{nil, {}} {
		for range 2 {
			for _, b := range [][]byte{nil, row(0, 1), row(0, 1<<21)} {
				types(t, c, b, api.ErrClosed)
				writes(t, c, b, 0, api.ErrClosed)
			}
			for _, n := range []int{-1, 0, 1} {
				reads(t, c, n, nil, api.ErrClosed)
			}
			ready(t, c, false, false)
			shows(t, c, 0, nil)
			c.End()
		}
	}
}

// R3

func TestConsoleKeepsNothingOfWhatItIsGiven(t *testing.T) {
	c := pipe.NewConsole()
	typed, written := append(row(0, 6), 99), append(row(40, 6), 99)
	types(t, c, typed[:6], api.OK)
	writes(t, c, written[:6], 6, api.OK)
	if !bytes.Equal(typed, append(row(0, 6), 99)) || !bytes.Equal(written, append(row(40, 6), 99)) {
		t.Error("what was given has changed", typed, written)
	}
	clear(typed)
	clear(written)
	read, _ := c.Read(2)
	output := c.Output()
	clear(read[:cap(read)])
	clear(output[:cap(output)])
	types(t, c, row(6, 2), api.OK)
	writes(t, c, row(46, 2), 2, api.OK)
	shows(t, c, 6, row(40, 8))
	first, second := c.Output(), c.Output()
	clear(first[:cap(first)])
	if !bytes.Equal(second, row(40, 8)) {
		t.Error("two answers share their bytes", second)
	}
	kept, _ := c.Read(3)
	types(t, c, row(8, 9), api.OK)
	rest, _ := c.Read(99)
	if !bytes.Equal(kept, row(2, 3)) || !bytes.Equal(rest, row(5, 12)) {
		t.Error("Read", kept, rest)
	}
}
