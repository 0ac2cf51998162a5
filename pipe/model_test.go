package pipe_test

import (
	"bytes"
	"slices"
	"testing"

	"parapet/api"
	"parapet/pipe"
)

// dice are numbers that are the same in each run.
type dice uint64

func (d *dice) below(n int) int {
	*d = *d*6364136223846793005 + 1442695040888963407
	return int(uint64(*d)>>33) % n
}

// size is a number of bytes, up to some most; often 0, 1, or the most.
func (d *dice) size(most int) int {
	switch d.below(6) {
	case 0:
		return d.below(3)
	case 1:
		return most - d.below(2)
	}
	return d.below(most)
}

func (d *dice) bytes(n int) []byte {
	b := make([]byte, n)
	for i := range b {
		b[i] = byte(d.below(256))
	}
	return b
}

// model is a pipe by all that was ever written to it, and how far it was read.
type model struct {
	written []byte
	read    int
	ends    map[bool]int // by write
}

func (m *model) left() []byte {
	return m.written[m.read:]
}

func (m *model) Read(n int) ([]byte, api.Errno) {
	if n < 0 {
		return nil, api.ErrArg
	}
	if n > 0 && len(m.left()) == 0 && m.ends[true] > 0 {
		return nil, api.ErrWait
	}
	b := m.left()
	if n < len(b) {
		b = b[:n]
	}
	m.read += len(b)
	return b, api.OK
}

func (m *model) Write(b []byte) (int, api.Errno) {
	if m.ends[false] == 0 {
		return 0, api.ErrPipe
	}
	n := 0
	for n < len(b) && len(m.left()) < 512 {
		m.written = append(m.written, b[n])
		n++
	}
	if n == 0 && len(b) > 0 {
		return 0, api.ErrWait
	}
	return n, api.OK
}

// Ready tries what it is asked of, on a model that goes on by itself.
func (m *model) Ready(write bool) bool {
	try := &model{written: slices.Clone(m.left()), ends: m.ends}
	var e api.Errno
	if write {
		_, e = try.Write([]byte{0})
	} else {
		_, e = try.Read(1)
	}
	return e != api.ErrWait
}

func (m *model) close(write bool) (bool, api.Errno) {
	if m.ends[write] == 0 {
		return false, api.ErrNone
	}
	m.ends[write]--
	return m.ends[true]+m.ends[false] == 0, api.OK
}

// both reads or writes at two sources, and holds that they answer the same.
func both(t *testing.T, r *dice, a, b source, most int) {
	t.Helper()
	if r.below(2) == 0 {
		n := r.size(most) - r.below(2)*r.below(2)
		x, e := a.Read(n)
		y, f := b.Read(n)
		if !bytes.Equal(x, y) || e != f {
			t.Fatal("Read", n, x, e, y, f)
		}
		return
	}
	l := r.bytes(r.size(most))
	n, e := a.Write(l)
	o, f := b.Write(l)
	if n != o || e != f {
		t.Fatal("Write", len(l), n, e, o, f)
	}
}

// P21.1, P21.2, P21.5: whoever opens, closes, reads, writes in whatever order, what was read and what is still there is what was written, in order.
func TestPipeAgainstModel(t *testing.T) {
	r := dice(21)
	for _, most := range []int{2, 20, 300, 700} {
		p, m := pipe.New(), &model{ends: map[bool]int{false: 1, true: 1}}
		for range 4000 {
			write := r.below(2) == 0
			switch r.below(16) {
			case 0:
				opens(t, p, write)
				m.ends[write]++
			case 1:
				last, e := m.close(write)
				closes(t, p, write, last, e)
			default:
				both(t, &r, p, m, most)
			}
			has(t, p, len(m.left()), m.ends[false], m.ends[true])
			ready(t, p, m.Ready(false), m.Ready(true))
		}
		rest, e := m.Read(512)
		reads(t, p, 512, rest, e)
	}
}

// P21.3, P21.5: the same of a console, where what came and what was written are two rows.
func TestConsoleAgainstModel(t *testing.T) {
	r := dice(22)
	for _, most := range []int{3, 100, 5000, 70000} {
		c := pipe.NewConsole()
		var came, output []byte
		ended := false
		for step := range 3000 {
			b := r.bytes(r.size(most) % 9000)
			switch r.below(4) {
			case 0:
				want := api.OK
				if ended || len(came)+len(b) > 65536 {
					want = api.ErrFull
				} else {
					came = append(came, b...)
				}
				types(t, c, b, want)
			case 1:
				if len(output)+len(b) > 1048576 {
					writes(t, c, b, 0, api.ErrFull)
					break
				}
				output = append(output, b...)
				writes(t, c, b, len(b), api.OK)
			case 2:
				n := min(len(b), len(came))
				if len(b) > 0 && n == 0 && !ended {
					reads(t, c, len(b), nil, api.ErrWait)
					break
				}
				reads(t, c, len(b), came[:n], api.OK)
				came = came[n:]
			default:
				if step > 2500 {
					c.End()
					ended = true
				}
			}
			if c.Waiting() != len(came) {
				t.Fatal("Waiting", c.Waiting(), len(came))
			}
			ready(t, c, ended || len(came) > 0, true)
		}
		shows(t, c, len(came), output)
	}
}
