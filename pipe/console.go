package pipe

import (
	"bytes"
	"slices"

	"parapet/api"
)

const (
	mostWaiting = 1 << 16 // bytes that came to a console and were not read
	mostOutput  = 1 << 20 // bytes that were written to it
)

// Console is bytes that came and were not read, and those that were written.
type Console struct {
	made   bool // by NewConsole
	came   []byte
	ended  bool // no more come
	output []byte
}

// NewConsole is a console to which nothing came, and more may come.
func NewConsole() *Console {
	return &Console{made: true}
}

// Type lets bytes come.
func (c *Console) Type(b []byte) api.Errno {
	switch {
	case c.closed():
		return api.ErrClosed
	case c.ended || len(b) > mostWaiting-len(c.came):
		return api.ErrFull
	}
	c.came = append(c.came, b...)
	return api.OK
}

// End lets no more come.
func (c *Console) End() {
	if c.closed() {
		return
	}
	c.ended = true
}

// Read takes the first n bytes that came, or all, if there are fewer.
func (c *Console) Read(n int) ([]byte, api.Errno) {
	if c.closed() {
		return nil, api.ErrClosed
	}
	n, e := granted(n, len(c.came), !c.ended)
	if n == 0 {
		return nil, e
	}
	out := bytes.Clone(c.came[:n])
	c.came = slices.Delete(c.came, 0, n)
	return out, api.OK
}

// Write writes all of some bytes, and tells how many.
func (c *Console) Write(b []byte) (int, api.Errno) {
	switch {
	case c.closed():
		return 0, api.ErrClosed
	case len(b) > mostOutput-len(c.output):
		return 0, api.ErrFull
	}
	c.output = append(c.output, b...)
	return len(b), api.OK
}

// Ready tells whether a read, or a write, of a byte would not have to wait; a write never has to.
func (c *Console) Ready(write bool) bool {
	if c.closed() {
		return false
	}
	return write || len(c.came) > 0 || c.ended
}

// Output is all that was written.
func (c *Console) Output() []byte {
	if c.closed() {
		return nil
	}
	return bytes.Clone(c.output)
}

// Waiting is how many bytes came and were not read.
func (c *Console) Waiting() int {
	if c.closed() {
		return 0
	}
	return len(c.came)
}

// closed tells whether no call of this package made c.
func (c *Console) closed() bool {
	return c == nil || !c.made
}
