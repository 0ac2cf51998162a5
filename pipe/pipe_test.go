package pipe_test

import (
	"bytes"
	"math"
	"testing"

	"parapet/api"
	"parapet/pipe"
)

// row is n bytes that rise from a first one on.
func row(first, n int) []byte {
	b := make([]byte, n)
	for i := range b {
		b[i] = byte(first + i)
	}
	return b
}

// source is what a Pipe and a Console have in common.
type source interface {
	Read(n int) ([]byte, api.Errno)
	Write(b []byte) (int, api.Errno)
	Ready(write bool) bool
}

// reads holds what a Read answers.
func reads(t *testing.T, s source, n int, want []byte, e api.Errno) {
	t.Helper()
	if b, f := s.Read(n); !bytes.Equal(b, want) || f != e {
		t.Fatalf("Read(%d): %v %v, not %v %v", n, b, f, want, e)
	}
}

// writes holds what a Write answers.
func writes(t *testing.T, s source, b []byte, want int, e api.Errno) {
	t.Helper()
	if n, f := s.Write(b); n != want || f != e {
		t.Fatalf("Write of %d: %d %v, not %d %v", len(b), n, f, want, e)
	}
}

func ready(t *testing.T, s source, read, write bool) {
	t.Helper()
	if r, w := s.Ready(false), s.Ready(true); r != read || w != write {
		t.Errorf("Ready: %v %v, not %v %v", r, w, read, write)
	}
}

// has holds how many bytes a pipe has, and how often its ends are held.
func has(t *testing.T, p *pipe.Pipe, n, readers, writers int) {
	t.Helper()
	r, w := p.Ends()
	if p.Len() != n || r != readers || w != writers {
		t.Errorf("Len, Ends: %d %d %d, not %d %d %d", p.Len(), r, w, n, readers, writers)
	}
}

func opens(t *testing.T, p *pipe.Pipe, write bool) {
	t.Helper()
	if e := p.Open(write); e != api.OK {
		t.Fatalf("Open(%v): %v", write, e)
	}
}

func closes(t *testing.T, p *pipe.Pipe, write, want bool, e api.Errno) {
	t.Helper()
	if last, f := p.Close(write); last != want || f != e {
		t.Fatalf("Close(%v): %v %v, not %v %v", write, last, f, want, e)
	}
}

// P21.1

func TestNew(t *testing.T) {
	p := pipe.New()
	has(t, p, 0, 1, 1)
	ready(t, p, false, true)
	reads(t, p, 1, nil, api.ErrWait)
	other := pipe.New()
	writes(t, p, row(0, 3), 3, api.OK)
	opens(t, p, true)
	has(t, p, 3, 1, 2)
	has(t, other, 0, 1, 1)
}

func TestOpenAndClose(t *testing.T) {
	p := pipe.New()
	opens(t, p, true)
	opens(t, p, true)
	has(t, p, 0, 1, 3)
	opens(t, p, false)
	has(t, p, 0, 2, 3)
	closes(t, p, true, false, api.OK)
	has(t, p, 0, 2, 2)
	closes(t, p, false, false, api.OK)
	closes(t, p, false, false, api.OK)
	has(t, p, 0, 0, 2)
	closes(t, p, false, false, api.ErrNone)
	has(t, p, 0, 0, 2)
	closes(t, p, true, false, api.OK)
	closes(t, p, true, true, api.OK)
	has(t, p, 0, 0, 0)
	closes(t, p, true, false, api.ErrNone)
	closes(t, p, false, false, api.ErrNone)
	has(t, p, 0, 0, 0)
}

func TestCloseOfTheReadingEndLast(t *testing.T) {
	p := pipe.New()
	opens(t, p, false)
	closes(t, p, true, false, api.OK)
	closes(t, p, true, false, api.ErrNone)
	closes(t, p, false, false, api.OK)
	closes(t, p, false, true, api.OK)
	has(t, p, 0, 0, 0)
}

// An end that nobody holds can be held again: the chapter refuses only one that is held too often.
func TestOpenOfAnEndThatNobodyHolds(t *testing.T) {
	p := pipe.New()
	writes(t, p, row(7, 5), 5, api.OK)
	closes(t, p, false, false, api.OK)
	closes(t, p, true, true, api.OK)
	has(t, p, 5, 0, 0)
	opens(t, p, true)
	has(t, p, 5, 0, 1)
	writes(t, p, row(0, 1), 0, api.ErrPipe)
	opens(t, p, false)
	writes(t, p, row(12, 2), 2, api.OK)
	reads(t, p, 9, row(7, 7), api.OK)
	closes(t, p, true, false, api.OK)
	closes(t, p, false, true, api.OK)
}

// P21.2

func TestRead(t *testing.T) {
	p := pipe.New()
	writes(t, p, row(0, 20), 20, api.OK)
	reads(t, p, 1, row(0, 1), api.OK)
	reads(t, p, 9, row(1, 9), api.OK)
	has(t, p, 10, 1, 1)
	reads(t, p, 0, nil, api.OK)
	has(t, p, 10, 1, 1)
	reads(t, p, 10, row(10, 10), api.OK)
	has(t, p, 0, 1, 1)
	writes(t, p, row(50, 3), 3, api.OK)
	reads(t, p, 4, row(50, 3), api.OK)
	writes(t, p, row(60, 3), 3, api.OK)
	reads(t, p, math.MaxInt, row(60, 3), api.OK)
	reads(t, p, math.MaxInt, nil, api.ErrWait)
}

func TestReadOfNothing(t *testing.T) {
	p := pipe.New()
	for _, n := range []int{-1, math.MinInt} {
		reads(t, p, n, nil, api.ErrArg)
	}
	reads(t, p, 0, nil, api.OK)
	reads(t, p, 1, nil, api.ErrWait)
	reads(t, p, 512, nil, api.ErrWait)
	writes(t, p, row(0, 2), 2, api.OK)
	reads(t, p, -1, nil, api.ErrArg)
	reads(t, p, math.MinInt, nil, api.ErrArg)
	has(t, p, 2, 1, 1)
	reads(t, p, 2, row(0, 2), api.OK)
	closes(t, p, true, false, api.OK)
	reads(t, p, -1, nil, api.ErrArg)
	reads(t, p, 0, nil, api.OK)
	reads(t, p, 1, nil, api.OK)
	reads(t, p, math.MaxInt, nil, api.OK)
}

// What is there is read, though nobody holds the writing end; the end comes behind it.
func TestReadUpToTheEnd(t *testing.T) {
	p := pipe.New()
	opens(t, p, true)
	writes(t, p, row(0, 5), 5, api.OK)
	closes(t, p, true, false, api.OK)
	reads(t, p, 5, row(0, 5), api.OK)
	reads(t, p, 1, nil, api.ErrWait)
	writes(t, p, row(5, 5), 5, api.OK)
	closes(t, p, true, false, api.OK)
	reads(t, p, 3, row(5, 3), api.OK)
	reads(t, p, 3, row(8, 2), api.OK)
	reads(t, p, 3, nil, api.OK)
	reads(t, p, 3, nil, api.OK)
	opens(t, p, true)
	reads(t, p, 3, nil, api.ErrWait)
}

// Only the writing end tells a reader of the end: not whether somebody else holds the reading one.
func TestReadWhenNobodyHoldsTheReadingEnd(t *testing.T) {
	p := pipe.New()
	writes(t, p, row(0, 5), 5, api.OK)
	closes(t, p, false, false, api.OK)
	reads(t, p, 4, row(0, 4), api.OK)
	reads(t, p, 4, row(4, 1), api.OK)
	reads(t, p, 4, nil, api.ErrWait)
}

func TestWrite(t *testing.T) {
	p := pipe.New()
	writes(t, p, row(0, 1), 1, api.OK)
	writes(t, p, row(1, 510), 510, api.OK)
	writes(t, p, nil, 0, api.OK)
	writes(t, p, row(511, 2), 1, api.OK)
	has(t, p, 512, 1, 1)
	writes(t, p, nil, 0, api.OK)
	writes(t, p, []byte{}, 0, api.OK)
	writes(t, p, row(0, 1), 0, api.ErrWait)
	writes(t, p, row(0, 600), 0, api.ErrWait)
	has(t, p, 512, 1, 1)
	reads(t, p, 512, row(0, 512), api.OK)
	writes(t, p, row(3, 512), 512, api.OK)
	reads(t, p, 600, row(3, 512), api.OK)
	writes(t, p, row(4, 1<<16), 512, api.OK)
	reads(t, p, 600, row(4, 512), api.OK)
	writes(t, p, nil, 0, api.OK)
	has(t, p, 0, 1, 1)
}

func TestWriteToNobody(t *testing.T) {
	p := pipe.New()
	writes(t, p, row(0, 500), 500, api.OK)
	closes(t, p, false, false, api.OK)
	for _, n := range []int{0, 1, 12, 13} {
		writes(t, p, row(0, n), 0, api.ErrPipe)
	}
	has(t, p, 500, 0, 1)
	opens(t, p, false)
	writes(t, p, row(500, 13), 12, api.OK)
	closes(t, p, false, false, api.OK)
	for _, n := range []int{0, 1, 600} {
		writes(t, p, row(0, n), 0, api.ErrPipe)
	}
	closes(t, p, true, true, api.OK)
	writes(t, p, nil, 0, api.ErrPipe)
	has(t, p, 512, 0, 0)
	reads(t, p, 600, row(0, 512), api.OK)
}

// The chapter asks of a Write for a reader alone.
func TestWriteWhenNobodyHoldsTheWritingEnd(t *testing.T) {
	p := pipe.New()
	closes(t, p, true, false, api.OK)
	writes(t, p, row(9, 4), 4, api.OK)
	reads(t, p, 9, row(9, 4), api.OK)
	reads(t, p, 9, nil, api.OK)
}

// From each place of the array on bytes go round, however many there are.
func TestGoingRound(t *testing.T) {
	for at := range 513 {
		for _, n := range []int{1, 2, 255, 256, 257, 511, 512} {
			p := pipe.New()
			writes(t, p, row(0, at), at, api.OK)
			if at > 0 {
				reads(t, p, at, row(0, at), api.OK)
			}
			writes(t, p, row(at, n), n, api.OK)
			writes(t, p, row(at+n, 512), 512-n, room(n))
			reads(t, p, n, row(at, n), api.OK)
			writes(t, p, row(at+512, n), n, api.OK)
			reads(t, p, 999, row(at+n, 512), api.OK)
			has(t, p, 0, 1, 1)
		}
	}
}

// room is what a Write behind n bytes tells.
func room(n int) api.Errno {
	if n == 512 {
		return api.ErrWait
	}
	return api.OK
}

func TestReady(t *testing.T) {
	p := pipe.New()
	ready(t, p, false, true)
	writes(t, p, row(0, 1), 1, api.OK)
	ready(t, p, true, true)
	writes(t, p, row(0, 510), 510, api.OK)
	ready(t, p, true, true)
	writes(t, p, row(0, 1), 1, api.OK)
	ready(t, p, true, false)
	closes(t, p, false, false, api.OK)
	ready(t, p, true, true)
	opens(t, p, false)
	ready(t, p, true, false)
	reads(t, p, 1, row(0, 1), api.OK)
	ready(t, p, true, true)
	reads(t, p, 511, append(row(0, 510), 0), api.OK)
	ready(t, p, false, true)
	closes(t, p, true, false, api.OK)
	ready(t, p, true, true)
	closes(t, p, false, true, api.OK)
	ready(t, p, true, true)
	opens(t, p, true)
	ready(t, p, false, true)
}

// P21.4

func TestNilPipe(t *testing.T) {
	for _, p := range []*pipe.Pipe{nil, {}} {
		for _, write := range []bool{false, true} {
			if e := p.Open(write); e != api.ErrClosed {
				t.Error("Open", e)
			}
			closes(t, p, write, false, api.ErrClosed)
		}
		for _, n := range []int{-1, 0, 1} {
			reads(t, p, n, nil, api.ErrClosed)
		}
		writes(t, p, nil, 0, api.ErrClosed)
		writes(t, p, row(0, 1), 0, api.ErrClosed)
		ready(t, p, false, false)
		has(t, p, 0, 0, 0)
	}
}

// R3

func TestPipeKeepsNothingOfWhatItIsGiven(t *testing.T) {
	p := pipe.New()
	given := append(row(0, 5), 99, 99)
	writes(t, p, given[:5], 5, api.OK)
	if !bytes.Equal(given, append(row(0, 5), 99, 99)) {
		t.Error("what was given has changed", given)
	}
	clear(given)
	first, _ := p.Read(2)
	writes(t, p, row(5, 507), 507, api.OK)
	clear(first[:cap(first)])
	second, _ := p.Read(2)
	clear(second[:cap(second)])
	reads(t, p, 600, row(4, 508), api.OK)
}

// Example 1.
func TestExampleOfPipes(t *testing.T) {
	p := pipe.New()
	b := row(0, 600)
	writes(t, p, b, 512, api.OK)
	writes(t, p, b[512:], 0, api.ErrWait)
	reads(t, p, 100, b[:100], api.OK)
	writes(t, p, row(512, 200), 100, api.OK)
	closes(t, p, true, false, api.OK)
	reads(t, p, 300, b[100:400], api.OK)
	reads(t, p, 300, row(400, 212), api.OK)
	reads(t, p, 300, nil, api.OK)
}
