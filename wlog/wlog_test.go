package wlog_test

import (
	"bytes"
	"math"
	"slices"
	"testing"

	"parapet/api"
	"parapet/disk"
	"parapet/wlog"
)

// of is a sector all of whose bytes are x.
func of(x byte) []byte { return bytes.Repeat([]byte{x}, size) }

// makeDisk is a disk whose sector n has all bytes n + 1.
func makeDisk(t *testing.T, count int) *disk.Disk {
	t.Helper()
	var image []byte
	for n := range count {
		image = append(image, of(byte(n+1))...)
	}
	d, e := disk.Load(image)
	if e != api.OK {
		t.Fatal("Load", e)
	}
	return d
}

func format(t *testing.T, d *disk.Disk, at, size int) *wlog.Log {
	t.Helper()
	l, e := wlog.Format(d, at, size)
	if e != api.OK || l == nil {
		t.Fatal("Format", at, size, e)
	}
	return l
}

// opens opens a log, and holds how many blocks are laid down and its generation.
func opens(t *testing.T, d *disk.Disk, at, size, laid int, generation uint64) *wlog.Log {
	t.Helper()
	l, n, e := wlog.Open(d, at, size)
	if e != api.OK || l == nil || n != laid {
		t.Fatal("Open", at, size, n, e)
	}
	if g := l.Generation(); g != generation {
		t.Fatal("Generation", g, "not", generation)
	}
	holds(t, l, size-1)
	return l
}

// make1 is a log of three blocks, sectors 1 to 4 of ten.
func make1(t *testing.T) (*wlog.Log, *disk.Disk) {
	t.Helper()
	d := makeDisk(t, 10)
	return format(t, d, 1, 4), d
}

func reads(t *testing.T, l *wlog.Log, n int, x byte) {
	t.Helper()
	if b, e := l.Read(n); e != api.OK || !bytes.Equal(b, of(x)) {
		t.Error("Read", n, e, b)
	}
}

// diskReads holds what a disk's sector is.
func diskReads(t *testing.T, d *disk.Disk, n int, want []byte) {
	t.Helper()
	if b, e := d.Read(n); e != api.OK || !bytes.Equal(b, want) {
		t.Error("the disk's", n, e, b)
	}
}

func writes(t *testing.T, l *wlog.Log, n int, x byte) {
	t.Helper()
	if e := l.Write(n, of(x)); e != api.OK {
		t.Error("Write", n, e)
	}
}

// holds holds the group's blocks, and how much room there is.
func holds(t *testing.T, l *wlog.Log, room int, want ...int) {
	t.Helper()
	if g := l.Dirty(); !slices.Equal(g, want) {
		t.Errorf("Dirty: %v, not %v", g, want)
	}
	if n := l.Room(); n != room {
		t.Errorf("Room: %d, not %d", n, room)
	}
}

// starts holds whether a commit can start.
func starts(t *testing.T, l *wlog.Log, want bool) {
	t.Helper()
	if l.Start() != want {
		t.Error("Start is not", want)
	}
}

// steps does so many steps of a commit that runs on.
func steps(t *testing.T, l *wlog.Log, n int) {
	t.Helper()
	for range n {
		if on, e := l.Step(); !on || e != api.OK || !l.Running() {
			t.Fatal("Step", on, e)
		}
	}
}

// ends does the last step of a commit.
func ends(t *testing.T, l *wlog.Log) {
	t.Helper()
	if on, e := l.Step(); on || e != api.OK || l.Running() {
		t.Fatal("the last Step", on, e)
	}
}

func commits(t *testing.T, l *wlog.Log, want int) {
	t.Helper()
	if n, e := l.Commit(); n != want || e != api.OK || l.Running() {
		t.Error("Commit", n, e)
	}
}

// tells holds what an operation's call answers.
func tells(t *testing.T, call func() api.Errno, want api.Errno) {
	t.Helper()
	if e := call(); e != want {
		t.Errorf("%d, not %d", e, want)
	}
}

// P16.2

// logs are those of a disk of 300 sectors that may be, and that may not.
var logs = []struct {
	at, size int
	may      bool
}{
	{0, 2, true}, {298, 2, true}, {0, 248, true}, {52, 248, true}, {1, 100, true},
	{299, 2, false}, {53, 248, false}, {300, 2, false}, {298, 3, false}, {-1, 2, false}, {-1, 248, false},
	{0, 1, false}, {0, 0, false}, {0, -1, false}, {0, 249, false}, {0, 300, false},
	{math.MinInt, 2, false}, {math.MaxInt, 2, false}, {math.MaxInt - 1, 2, false}, {math.MaxInt, 248, false},
	{0, math.MinInt, false}, {0, math.MaxInt, false}, {math.MinInt, math.MinInt, false}, {math.MaxInt, math.MaxInt, false}, {1, math.MaxInt, false},
}

func TestWhichLogsMayBe(t *testing.T) {
	for _, c := range logs {
		d := makeDisk(t, 300)
		was := d.Image()
		l, e := wlog.Format(d, c.at, c.size)
		f := d.Fork()
		m, n, f2 := wlog.Open(f, c.at, c.size)
		if n != 0 {
			t.Error("Open laid down", n)
		}
		if c.may {
			if l == nil || e != api.OK || m == nil || f2 != api.OK {
				t.Error(c, l, e, m, f2)
			}
			continue
		}
		if l != nil || e != api.ErrArg || m != nil || f2 != api.ErrArg {
			t.Error(c, l, e, m, f2)
		}
		if r, w, f := d.Counts(); r+w+f != 0 || !bytes.Equal(d.Image(), was) {
			t.Error("the disk has changed", c)
		}
	}
}

func TestLogsOfNoDisk(t *testing.T) {
	for _, d := range []*disk.Disk{nil, {}} {
		for _, size := range []int{-1, 0, 1, 2, 248} {
			for at := -4; at < 2; at++ {
				if l, e := wlog.Format(d, at, size); l != nil || e != api.ErrArg {
					t.Error("Format", at, size, l, e)
				}
				if l, n, e := wlog.Open(d, at, size); l != nil || n != 0 || e != api.ErrArg {
					t.Error("Open", at, size, l, n, e)
				}
			}
		}
	}
}

func TestFormat(t *testing.T) {
	d := makeDisk(t, 10)
	was := d.Image()
	copy(was[3*size:], head(0))
	l := format(t, d, 3, 5)
	if !bytes.Equal(d.Image(), was) || len(d.Pending()) != 0 {
		t.Error("the disk", d.Pending())
	}
	if _, w, f := d.Counts(); w != 1 || f != 1 {
		t.Error("Counts", w, f)
	}
	if l.Disk() != d || l.Generation() != 0 || l.Running() {
		t.Error("Disk, Generation, Running")
	}
	holds(t, l, 4)
	for _, n := range []int{0, 1, 2, 8, 9} {
		reads(t, l, n, byte(n+1))
	}
}

// What was in the log is there no more, whatever it said.
func TestFormatOfALog(t *testing.T) {
	for _, g := range generations {
		d := makeDisk(t, 10)
		d.Write(1, head(g, 7, 9))
		format(t, d, 1, 4)
		diskReads(t, d, 1, head(0))
		l := opens(t, d, 1, 4, 0, 0)
		reads(t, l, 7, 8)
	}
}

func TestOpenOfAnEmptyLog(t *testing.T) {
	for _, g := range generations {
		d := makeDisk(t, 10)
		d.Write(1, head(g))
		d.Flush()
		was := d.Image()
		l := opens(t, d, 1, 4, 0, g)
		if _, w, f := d.Counts(); w != 1 || f != 1 {
			t.Error("Open has done something", w, f)
		}
		if !bytes.Equal(d.Image(), was) || l.Disk() != d || l.Running() {
			t.Error("Open")
		}
	}
}

// recovering is a disk whose log has sectors 2 and 3 for blocks 9 and 0.
func recovering(t *testing.T, g uint64) *disk.Disk {
	t.Helper()
	d := makeDisk(t, 10)
	d.Write(1, head(g, 9, 0))
	d.Write(2, of('a'))
	d.Write(3, of('b'))
	d.Flush()
	return d
}

func TestOpenLaysDown(t *testing.T) {
	for _, g := range generations {
		d := recovering(t, g)
		want := d.Image()
		copy(want[size:], head(g))
		copy(want[9*size:], of('a'))
		copy(want, of('b'))
		l := opens(t, d, 1, 4, 2, g)
		if !bytes.Equal(d.Image(), want) || len(d.Pending()) != 0 {
			t.Error("the disk", d.Pending())
		}
		if _, w, f := d.Counts(); w != 3+3 || f != 1+2 {
			t.Error("Counts", w, f)
		}
		reads(t, l, 9, 'a')
		reads(t, l, 0, 'b')
		opens(t, d, 1, 4, 0, g)
	}
}

// Each operation of a recovery, by what is pending behind it.
func TestOpenInOrder(t *testing.T) {
	pending := [][]int{{}, {9}, {9, 0}, {}, {1}, {}, {}}
	for k, want := range pending {
		d := recovering(t, 77)
		d.Stop(k)
		opens(t, d, 1, 4, 2, 77)
		if l := d.Pending(); !slices.Equal(l, want) {
			t.Error(k, "operations: pending", l)
		}
		if off := k <= 5; d.Off() != off {
			t.Error(k, "operations: Off", d.Off())
		}
		if k >= 3 {
			d.Crash(nil)
			diskReads(t, d, 9, of('a'))
			diskReads(t, d, 0, of('b'))
		}
	}
}

func TestOpenOfTheMost(t *testing.T) {
	d, e := disk.New(api.MaxSectors)
	if e != api.OK {
		t.Fatal("New", e)
	}
	d.Write(0, head(9, rising(3849, 247)...))
	for i := range 247 {
		d.Write(1+i, of(byte(i)))
	}
	l := opens(t, d, 0, 248, 247, 9)
	for i := range 247 {
		reads(t, l, 3849+i, byte(i))
	}
}

// unright are headers that are not right for sectors 1 to 4 of ten.
func unright(g uint64) [][]byte {
	l := [][]byte{head(g, 2), head(g, 10), head(g, 7, 7), head(g, 5, 6, 7, 8), head(g, 1), head(g, 65535)}
	for _, at := range []int{0, 7, 8, 10, 14, 300, 503} {
		b := head(g, 7)
		b[at]++
		l = append(l, b)
	}
	return l
}

func TestOpenOfAHeaderThatIsNotRight(t *testing.T) {
	for _, g := range generations {
		for i, b := range unright(g) {
			d := makeDisk(t, 10)
			d.Write(1, b)
			d.Flush()
			want := d.Image()
			copy(want[size:], head(g+1))
			opens(t, d, 1, 4, 0, g+1)
			if !bytes.Equal(d.Image(), want) || len(d.Pending()) != 0 {
				t.Error("the disk", g, i)
			}
			if _, w, f := d.Counts(); w != 2 || f != 2 {
				t.Error("Counts", w, f)
			}
			opens(t, d, 1, 4, 0, g+1)
		}
	}
}

// Of two generations that are not the same the one in the last bytes counts.
func TestOpenOfTwoGenerations(t *testing.T) {
	for _, g := range generations {
		d := makeDisk(t, 10)
		b := head(g + 5)
		copy(b[504:], head(g))
		d.Write(1, b)
		opens(t, d, 1, 4, 0, g+1)
		diskReads(t, d, 1, head(g+1))
	}
}

func TestOpenOfGarbage(t *testing.T) {
	d := makeDisk(t, 10)
	opens(t, d, 1, 4, 0, 0x0202020202020203)
	e, _ := disk.New(10)
	opens(t, e, 1, 4, 0, 0)
	if _, w, f := e.Counts(); w+f != 0 {
		t.Error("bytes 0 are a header", w, f)
	}
}

// P16.3

func TestReadAndWriteOfNoBlock(t *testing.T) {
	l, d := make1(t)
	writes(t, l, 7, 'a')
	for _, n := range append([]int{1, 2, 3, 4, 10, 11, 4096}, odd...) {
		if b, e := l.Read(n); b != nil || e != api.ErrArg {
			t.Error("Read", n, b, e)
		}
		for _, b := range [][]byte{of('x'), nil, of('x')[:511]} {
			if e := l.Write(n, b); e != api.ErrArg {
				t.Error("Write", n, e)
			}
		}
	}
	holds(t, l, 2, 7)
	starts(t, l, true)
	if e := l.Write(3, of('x')); e != api.ErrArg {
		t.Error("Write while a commit runs", e)
	}
	if r, _, _ := d.Counts(); r != 0 {
		t.Error("the disk has been read", r)
	}
}

func TestWriteOfNoSector(t *testing.T) {
	l, _ := make1(t)
	writes(t, l, 7, 'a')
	bad := func() {
		t.Helper()
		for _, n := range []int{0, 1, 511, 513, 1024} {
			for _, at := range []int{7, 8} {
				if e := l.Write(at, make([]byte, n)); e != api.ErrArg {
					t.Error("Write", at, n, e)
				}
			}
		}
	}
	bad()
	writes(t, l, 8, 'b')
	writes(t, l, 9, 'c')
	bad()
	starts(t, l, true)
	bad()
	reads(t, l, 7, 'a')
	holds(t, l, 0, 7, 8, 9)
}

func TestBlocksRead(t *testing.T) {
	l, d := make1(t)
	for _, n := range []int{0, 5, 9} {
		reads(t, l, n, byte(n+1))
	}
	writes(t, l, 7, 'a')
	writes(t, l, 9, 'b')
	reads(t, l, 7, 'a')
	reads(t, l, 9, 'b')
	reads(t, l, 8, 9)
	writes(t, l, 7, 'c')
	reads(t, l, 7, 'c')
	diskReads(t, d, 7, of(8))
	holds(t, l, 1, 7, 9)
	d.Write(8, of('x'))
	d.Write(9, of('y'))
	reads(t, l, 8, 'x')
	reads(t, l, 9, 'b')
}

func TestGroupIsInOrder(t *testing.T) {
	l, _ := make1(t)
	holds(t, l, 3)
	writes(t, l, 9, 'a')
	holds(t, l, 2, 9)
	writes(t, l, 0, 'b')
	holds(t, l, 1, 9, 0)
	writes(t, l, 9, 'c')
	holds(t, l, 1, 9, 0)
	writes(t, l, 5, 'd')
	holds(t, l, 0, 9, 0, 5)
}

func TestGroupIsFull(t *testing.T) {
	l, _ := make1(t)
	for _, n := range []int{9, 0, 5} {
		writes(t, l, n, 'a')
	}
	for _, n := range []int{6, 7, 8} {
		if e := l.Write(n, of('b')); e != api.ErrFull {
			t.Error("Write", n, e)
		}
		reads(t, l, n, byte(n+1))
	}
	writes(t, l, 0, 'c')
	holds(t, l, 0, 9, 0, 5)
	reads(t, l, 0, 'c')
	starts(t, l, true)
	if e := l.Write(6, of('b')); e != api.ErrBusy {
		t.Error("Write while a commit runs", e)
	}
}

func TestGroupsOfTheLeastAndTheMost(t *testing.T) {
	for _, most := range []int{1, 2, 246, 247} {
		d, e := disk.New(600)
		if e != api.OK {
			t.Fatal("New", e)
		}
		l := format(t, d, 100, most+1)
		for i := range most {
			holds(t, l, most-i, rising(350, i)...)
			writes(t, l, 350+i, byte(i))
		}
		holds(t, l, 0, rising(350, most)...)
		if e := l.Write(0, of(1)); e != api.ErrFull {
			t.Error("Write", e)
		}
		commits(t, l, 2*most+6)
		holds(t, l, most)
		for i := range most {
			diskReads(t, d, 350+i, of(byte(i)))
			diskReads(t, d, 101+i, of(byte(i)))
		}
		diskReads(t, d, 100, head(1))
		if d.Crash(nil) != api.OK {
			t.Error("Crash")
		}
		diskReads(t, d, 350+most-1, of(byte(most-1)))
	}
}

// P16.4

func TestOperations(t *testing.T) {
	l, _ := make1(t)
	tells(t, l.End, api.ErrNone)
	tells(t, l.Abort, api.ErrNone)
	for _, over := range []func() api.Errno{l.End, l.Abort} {
		tells(t, l.Begin, api.OK)
		tells(t, l.Begin, api.ErrBusy)
		tells(t, over, api.OK)
		tells(t, l.End, api.ErrNone)
		tells(t, l.Abort, api.ErrNone)
	}
	writes(t, l, 7, 'a')
	starts(t, l, true)
	for l.Running() {
		tells(t, l.Begin, api.ErrBusy)
		tells(t, l.End, api.ErrNone)
		tells(t, l.Abort, api.ErrNone)
		l.Step()
	}
	tells(t, l.Begin, api.OK)
}

func TestEndKeepsTheGroup(t *testing.T) {
	l, _ := make1(t)
	writes(t, l, 7, 'a')
	tells(t, l.Begin, api.OK)
	writes(t, l, 7, 'b')
	writes(t, l, 5, 'c')
	tells(t, l.End, api.OK)
	holds(t, l, 1, 7, 5)
	reads(t, l, 7, 'b')
	reads(t, l, 5, 'c')
}

func TestAbort(t *testing.T) {
	l, d := make1(t)
	writes(t, l, 7, 'a')
	writes(t, l, 0, 'b')
	for range 2 {
		tells(t, l.Begin, api.OK)
		writes(t, l, 0, 'c')
		writes(t, l, 9, 'd')
		writes(t, l, 7, 'e')
		writes(t, l, 7, 'f')
		if e := l.Write(5, of('g')); e != api.ErrFull {
			t.Error("Write", e)
		}
		holds(t, l, 0, 7, 0, 9)
		tells(t, l.Abort, api.OK)
		holds(t, l, 1, 7, 0)
		reads(t, l, 7, 'a')
		reads(t, l, 0, 'b')
		reads(t, l, 9, 10)
	}
	writes(t, l, 5, 'h')
	holds(t, l, 0, 7, 0, 5)
	commits(t, l, 12)
	for n, x := range []byte{0: 'b', 5: 'h', 7: 'a', 9: 10} {
		if x != 0 {
			diskReads(t, d, n, of(x))
		}
	}
}

// An operation that ends is not undone by one that is aborted behind it.
func TestAbortOfTheLastAlone(t *testing.T) {
	l, _ := make1(t)
	tells(t, l.Begin, api.OK)
	writes(t, l, 7, 'a')
	tells(t, l.End, api.OK)
	tells(t, l.Begin, api.OK)
	writes(t, l, 7, 'b')
	writes(t, l, 8, 'b')
	tells(t, l.Abort, api.OK)
	holds(t, l, 2, 7)
	reads(t, l, 7, 'a')
	reads(t, l, 8, 9)
	tells(t, l.Begin, api.OK)
	writes(t, l, 8, 'c')
	tells(t, l.Abort, api.OK)
	holds(t, l, 2, 7)
}

// R3

func TestWhatIsHandedInIsNotKept(t *testing.T) {
	l, d := make1(t)
	room := bytes.Repeat([]byte{'a'}, 2*size)
	b := room[:size]
	if e := l.Write(7, b); e != api.OK {
		t.Error("Write", e)
	}
	if !bytes.Equal(room, bytes.Repeat([]byte{'a'}, 2*size)) {
		t.Error("Write has changed what came in")
	}
	b[0] = 'b'
	reads(t, l, 7, 'a')
	commits(t, l, 8)
	diskReads(t, d, 7, of('a'))
}

func TestAnswersAreNewMemory(t *testing.T) {
	l, _ := make1(t)
	writes(t, l, 7, 'a')
	writes(t, l, 8, 'b')
	for _, n := range []int{7, 9} {
		b, _ := l.Read(n)
		clear(b[:cap(b)])
	}
	reads(t, l, 7, 'a')
	reads(t, l, 9, 10)
	was := l.Dirty()
	g := l.Dirty()
	clear(g[:cap(g)])
	holds(t, l, 1, 7, 8)
	writes(t, l, 9, 'c')
	tells(t, l.Begin, api.OK)
	writes(t, l, 7, 'd')
	tells(t, l.Abort, api.OK)
	if !slices.Equal(was, []int{7, 8}) {
		t.Error("Dirty has changed", was)
	}
}

func TestOfNoLog(t *testing.T) {
	for _, l := range []*wlog.Log{nil, {}} {
		for _, n := range []int{-1, 0, 7} {
			if b, e := l.Read(n); b != nil || e != api.ErrClosed {
				t.Error("Read", b, e)
			}
			if l.Write(n, of(1)) != api.ErrClosed || l.Write(n, nil) != api.ErrClosed {
				t.Error("Write")
			}
		}
		for _, call := range []func() api.Errno{l.Begin, l.End, l.Abort} {
			tells(t, call, api.ErrClosed)
		}
		if on, e := l.Step(); on || e != api.ErrClosed {
			t.Error("Step", on, e)
		}
		if n, e := l.Commit(); n != 0 || e != api.ErrClosed {
			t.Error("Commit", n, e)
		}
		if l.Start() || l.Running() || l.Generation() != 0 || l.Disk() != nil {
			t.Error("Start, Running, Generation, Disk")
		}
		holds(t, l, 0)
	}
}
