package disk_test

import (
	"bytes"
	"testing"

	"parapet/api"
	"parapet/disk"
)

// model is a disk as the chapter tells it, without a map: whoever reads goes over all pending writes.
type model struct {
	platter [][]byte
	pending []int
	bytes   [][]byte
	left    int
}

func (m *model) read(n int) []byte {
	b := m.platter[n]
	for i, s := range m.pending {
		if s == n {
			b = m.bytes[i]
		}
	}
	return b
}

func (m *model) power() bool {
	if m.left > 0 {
		m.left--
		return true
	}
	return m.left < 0
}

func (m *model) write(n int, b []byte) {
	if m.power() {
		m.pending = append(m.pending, n)
		m.bytes = append(m.bytes, b)
	}
}

// lay lays down the first so many bytes of each pending write, and forgets them all.
func (m *model) lay(counts []int) {
	for i, n := range m.pending {
		for j := range counts[i] {
			m.platter[n][j] = m.bytes[i][j]
		}
	}
	m.pending, m.bytes = nil, nil
}

func (m *model) flush() int {
	if !m.power() {
		return 0
	}
	n := len(m.pending)
	counts := make([]int, n)
	for i := range counts {
		counts[i] = size
	}
	m.lay(counts)
	return n
}

// dice are numbers that are the same in each run.
type dice uint64

func (d *dice) below(n int) int {
	*d = *d*6364136223846793005 + 1442695040888963407
	return int(uint64(*d)>>33) % n
}

// torn is what a crash keeps, and how many bytes of each pending write that is.
func (d *dice) torn(pending int) ([]api.Torn, []int) {
	var l []api.Torn
	counts := make([]int, pending)
	for i := range counts {
		switch d.below(3) {
		case 0:
			counts[i] = size
		case 1:
			counts[i] = 1 + d.below(size)
		}
		if counts[i] > 0 {
			l = append(l, api.Torn{At: i, Bytes: counts[i]})
		}
	}
	return l, counts
}

const modelSectors = 5

func step(t *testing.T, r *dice, d *disk.Disk, m *model) {
	t.Helper()
	switch r.below(12) {
	case 0:
		if a, b := d.Flush(), m.flush(); a != b {
			t.Fatal("Flush", a, b)
		}
	case 1:
		l, counts := r.torn(len(m.pending))
		if e := d.Crash(l); e != api.OK {
			t.Fatal("Crash", e)
		}
		m.lay(counts)
		m.left = -1
	case 2:
		m.left = r.below(9) - 1
		d.Stop(m.left)
	default:
		n, b := r.below(modelSectors), of(byte(r.below(256)))
		if e := d.Write(n, b); e != api.OK {
			t.Fatal("Write", e)
		}
		m.write(n, b)
	}
}

// P2.2 to P2.4, P2.6, P2.7: whatever comes in whatever order, the disk is what the chapter tells.
func TestAgainstModel(t *testing.T) {
	r := dice(1)
	d, _ := disk.New(modelSectors)
	m := &model{left: -1}
	for range modelSectors {
		m.platter = append(m.platter, of(0))
	}
	for range 5000 {
		step(t, &r, d, m)
		if d.Off() != (m.left == 0) {
			t.Fatal("Off", d.Off(), m.left)
		}
		pends(t, d, m.pending...)
		if !bytes.Equal(d.Image(), bytes.Join(m.platter, nil)) {
			t.Fatal("Image")
		}
		for n := range modelSectors {
			reads(t, d, n, m.read(n))
		}
	}
}
