package wlog_test

import (
	"bytes"
	"slices"
	"testing"

	"parapet/api"
	"parapet/disk"
	"parapet/wlog"
)

// The log of these tests has sectors 1 to 4 of eight, and room for three blocks.
const (
	logAt   = 1
	logSize = 4
	sectors = 8
)

// tears is numbers of first bytes of pending writes: of one alone, and of one among several.
type tears struct {
	alone []int
	among []int
}

// edges is numbers of a header's first bytes about where its parts stand.
var edges = slices.Concat(rising(0, 20), []int{100, 300}, rising(503, 10))

// crashes goes over what may persist of so many pending writes: all mixtures.
func (x tears) crashes(pending int, each func([]api.Torn)) {
	some := x.among
	if pending == 1 {
		some = x.alone
	}
	mixtures(nil, 0, pending, some, each)
}

func mixtures(l []api.Torn, at, pending int, some []int, each func([]api.Torn)) {
	if at == pending {
		each(l)
		return
	}
	for _, n := range some {
		m := slices.Clone(l)
		if n > 0 {
			m = append(m, api.Torn{At: at, Bytes: n})
		}
		mixtures(m, at+1, pending, some, each)
	}
}

// crashed is another disk that is the same behind a crash.
func crashed(t *testing.T, d *disk.Disk, l []api.Torn) *disk.Disk {
	t.Helper()
	f := d.Fork()
	if e := f.Crash(l); e != api.OK {
		t.Fatal("Crash", l, e)
	}
	return f
}

// blocks is all blocks as a log reads them.
func blocks(t *testing.T, l *wlog.Log) []byte {
	t.Helper()
	var all []byte
	for n := range sectors {
		if n >= logAt && n < logAt+logSize {
			continue
		}
		b, e := l.Read(n)
		if e != api.OK {
			t.Fatal("Read", n, e)
		}
		all = append(all, b...)
	}
	return all
}

// played is two commits on a disk whose power goes: the disk, and the blocks ahead of them and behind each.
type played struct {
	disk  *disk.Disk
	trees [][]byte
}

// groups are what the two commits write.
var groups = [][]put{{{0, 'a'}, {5, 'b'}, {7, 'c'}}, {{5, 'd'}, {6, 'e'}}}

// play commits the groups, on a disk whose power goes behind stop operations.
func play(t *testing.T, g uint64, stop int) played {
	t.Helper()
	d := makeDisk(t, sectors)
	d.Write(logAt, head(g))
	d.Flush()
	l := opens(t, d, logAt, logSize, 0, g)
	// The blocks as they would be are told by a log whose power stays.
	stays := opens(t, d.Fork(), logAt, logSize, 0, g)
	p := played{disk: d, trees: [][]byte{blocks(t, stays)}}
	d.Stop(stop)
	for _, group := range groups {
		for _, x := range group {
			writes(t, l, x.n, x.x)
			writes(t, stays, x.n, x.x)
		}
		commits(t, l, 2*len(group)+6)
		commits(t, stays, 2*len(group)+6)
		p.trees = append(p.trees, blocks(t, stays))
	}
	return p
}

// bounds is the least and the greatest tree that may be found, where so many operations of the two commits were done: their fourth steps are the 6th and the 17th, the second one begins behind the 12th.
func bounds(stop int) (int, int) {
	least, most := 0, 1
	if stop >= 6 {
		least = 1
	}
	if stop >= 17 {
		least = 2
	}
	if stop > 12 {
		most = 2
	}
	return least, most
}

// found opens a log behind a crash, and tells which tree it finds.
func found(t *testing.T, d *disk.Disk, p played, least, most int) int {
	t.Helper()
	l, _, e := wlog.Open(d, logAt, logSize)
	if e != api.OK {
		t.Fatal("Open", e)
	}
	b := blocks(t, l)
	for i := least; i <= most; i++ {
		if bytes.Equal(b, p.trees[i]) {
			return i
		}
	}
	t.Fatal("none of trees", least, "to", most)
	return 0
}

const playedOps = 12 + 10

// P16.6: wherever the power goes, and whatever persists.
func TestPowerGoesInACommit(t *testing.T) {
	x := tears{rising(0, size+1), []int{0, 1, 200, 511, 512}}
	for _, g := range generations {
		for stop := range playedOps + 1 {
			p := play(t, g, stop)
			least, most := bounds(stop)
			seen := map[int]bool{}
			x.crashes(len(p.disk.Pending()), func(l []api.Torn) {
				d := crashed(t, p.disk, l)
				i := found(t, d, p, least, most)
				seen[i] = true
				// What was found once stays.
				found(t, crashed(t, d, nil), p, i, i)
			})
			// Behind the header's writing, and ahead of the flush, it may be either.
			if both := stop == 5 || stop == 16; (len(seen) == 2) != both {
				t.Error("stop", stop, "trees", seen)
			}
		}
	}
}

// again lets the power go at each operation of a recovery, and tells each disk behind the crash.
func again(t *testing.T, d *disk.Disk, x tears, each func(*disk.Disk)) {
	t.Helper()
	for stop := 0; ; stop++ {
		f := d.Fork()
		f.Stop(stop)
		if _, _, e := wlog.Open(f, logAt, logSize); e != api.OK {
			t.Fatal("Open", e)
		}
		// As long as the power is there behind them, all operations were done.
		whole := !f.Off()
		x.crashes(len(f.Pending()), func(l []api.Torn) { each(crashed(t, f, l)) })
		if whole {
			return
		}
	}
}

// P16.6: while it is recovered, again.
func TestPowerGoesInARecovery(t *testing.T) {
	x := tears{edges, []int{0, 300, 512}}
	for _, g := range []uint64{254, 0xffff, 1<<64 - 1} {
		for stop := range playedOps + 1 {
			p := play(t, g, stop)
			least, most := bounds(stop)
			x.crashes(len(p.disk.Pending()), func(l []api.Torn) {
				d := crashed(t, p.disk, l)
				i := found(t, d.Fork(), p, least, most)
				again(t, d, x, func(d *disk.Disk) { found(t, d, p, i, i) })
			})
		}
	}
}

// P16.6: and again and again, by dice, with logs that go on behind it.
func TestPowerGoesAgainAndAgain(t *testing.T) {
	r := dice(166)
	for range 300 {
		d := makeDisk(t, sectors)
		d.Write(logAt, head(generations[r.below(len(generations))]))
		d.Flush()
		l, _, _ := wlog.Open(d, logAt, logSize)
		was := blocks(t, l)
		for range 30 {
			next, lasts := commitSome(t, &r, d, l)
			for d.Off() || r.below(3) == 0 {
				if e := d.Crash(r.torn(len(d.Pending()))); e != api.OK {
					t.Fatal("Crash", e)
				}
				d.Stop(r.below(9) - 1)
				l, _, _ = wlog.Open(d, logAt, logSize)
			}
			now := blocks(t, l)
			switch {
			case bytes.Equal(now, next):
			case lasts || !bytes.Equal(now, was):
				t.Fatal("neither the tree ahead of the commit nor that behind it; it lasts:", lasts)
			}
			was = now
		}
	}
}

// commitSome commits some blocks on a disk whose power may go, and tells the tree behind it, and whether that lasts.
func commitSome(t *testing.T, r *dice, d *disk.Disk, l *wlog.Log) ([]byte, bool) {
	t.Helper()
	for range 1 + r.below(3) {
		writes(t, l, []int{0, 5, 6, 7}[r.below(4)], byte(r.below(256)))
	}
	next, n := blocks(t, l), len(l.Dirty())
	stop := r.below(2*n+8) - 1
	d.Stop(stop)
	commits(t, l, 2*n+6)
	return next, stop < 0 || stop >= n+3
}

// torn is what a crash keeps.
func (d *dice) torn(pending int) []api.Torn {
	var l []api.Torn
	for at := range pending {
		switch d.below(3) {
		case 0:
			l = append(l, api.Torn{At: at, Bytes: size})
		case 1:
			l = append(l, api.Torn{At: at, Bytes: 1 + d.below(size)})
		}
	}
	return l
}

// written is a log of these tests with the first group, on a disk, and the blocks ahead of that.
func written(t *testing.T) (*wlog.Log, *disk.Disk, []byte) {
	t.Helper()
	d := makeDisk(t, sectors)
	l := format(t, d, logAt, logSize)
	was := blocks(t, l)
	for _, x := range groups[0] {
		writes(t, l, x.n, x.x)
	}
	return l, d, was
}

// P16.7: a log that is open when the power goes, ahead of step 4, goes on to the commit's end, and reads behind the crash as if the group had never been, whatever persists of the log's sectors.
func TestLogThatIsOpenBehindACrash(t *testing.T) {
	x := tears{edges, []int{0, 1, 511, 512}}
	for stop := range 6 {
		pending := []int{0, 1, 2, 3, 0, 1}[stop]
		x.crashes(pending, func(torn []api.Torn) {
			l, d, was := written(t)
			d.Stop(stop)
			commits(t, l, 12)
			if e := d.Crash(torn); e != api.OK {
				t.Fatal("Crash", torn, e)
			}
			if !bytes.Equal(blocks(t, l), was) {
				t.Error("stop", stop, "torn", torn)
			}
			holds(t, l, 3)
		})
	}
}

// P16.7: so does one that is opened then, if the header does not persist.
func TestLogThatIsOpenedBehindACrash(t *testing.T) {
	x := tears{rising(0, size), []int{0, 1, 511, 512}}
	for done := range 6 {
		l, d, was := written(t)
		starts(t, l, true)
		steps(t, l, done)
		x.crashes(len(d.Pending()), func(torn []api.Torn) {
			m, n, e := wlog.Open(crashed(t, d, torn), logAt, logSize)
			if n != 0 || e != api.OK || !bytes.Equal(blocks(t, m), was) {
				t.Error("steps", done, "torn", torn, n, e)
			}
		})
	}
}

// Example 6 of the whole: a torn header of the log.
func TestTornHeader(t *testing.T) {
	for bytesKept := 1; bytesKept < size; bytesKept++ {
		l, d := make1(t)
		writes(t, l, 7, 'a')
		starts(t, l, true)
		steps(t, l, 3)
		d.Crash([]api.Torn{{At: 0, Bytes: bytesKept}})
		b, _ := d.Read(1)
		g, blocks, ok := wlog.Parse(b, 1, 4, 10)
		// Seven bytes of a generation below 256 are as they were.
		if ok != (bytesKept < 8) || g != 0 || len(blocks) != 0 {
			t.Error(bytesKept, g, blocks, ok)
		}
		m, n, e := wlog.Open(d, 1, 4)
		if n != 0 || e != api.OK || ok && m.Generation() != 0 || !ok && m.Generation() != 1 {
			t.Error(bytesKept, n, e, m.Generation())
		}
		reads(t, m, 7, 8)
	}
}
