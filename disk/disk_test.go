package disk_test

import (
	"bytes"
	"math"
	"slices"
	"testing"

	"parapet/api"
	"parapet/disk"
)

const size = api.SectorSize

// of is a sector all of whose bytes are x.
func of(x byte) []byte { return bytes.Repeat([]byte{x}, size) }

func make4(t *testing.T) *disk.Disk {
	t.Helper()
	d, e := disk.New(4)
	if e != api.OK {
		t.Fatal("New", e)
	}
	return d
}

func write(t *testing.T, d *disk.Disk, n int, x byte) {
	t.Helper()
	if e := d.Write(n, of(x)); e != api.OK {
		t.Fatal("Write", n, e)
	}
}

// reads holds a sector against the bytes that it ought to have.
func reads(t *testing.T, d *disk.Disk, n int, want []byte) {
	t.Helper()
	if b, e := d.Read(n); e != api.OK || !bytes.Equal(b, want) {
		t.Error("Read", n, e, b)
	}
}

// counted holds what was done against what ought to have been.
func counted(t *testing.T, d *disk.Disk, reads, writes, flushes int) {
	t.Helper()
	if r, w, f := d.Counts(); r != reads || w != writes || f != flushes {
		t.Error("Counts", r, w, f, "not", reads, writes, flushes)
	}
}

func pends(t *testing.T, d *disk.Disk, want ...int) {
	t.Helper()
	if l := d.Pending(); !slices.Equal(l, want) {
		t.Error("Pending", l, "not", want)
	}
}

// P2.1

func TestNew(t *testing.T) {
	for _, n := range []int{math.MinInt, -1, 0, api.MaxSectors + 1, math.MaxInt>>8 + 1, math.MaxInt} {
		if d, e := disk.New(n); d != nil || e != api.ErrArg {
			t.Error(n, d, e)
		}
	}
	for _, n := range []int{1, 2, api.MaxSectors} {
		d, e := disk.New(n)
		if e != api.OK || d.Count() != n || !bytes.Equal(d.Image(), make([]byte, n*size)) || d.Off() {
			t.Error(n, e, d.Count())
		}
		reads(t, d, n-1, of(0))
		pends(t, d)
	}
}

func TestLoad(t *testing.T) {
	for _, n := range []int{0, 1, size - 1, size + 1, 3*size + 7, api.MaxSectors*size + 1, (api.MaxSectors + 1) * size} {
		if d, e := disk.Load(make([]byte, n)); d != nil || e != api.ErrArg {
			t.Error(n, d, e)
		}
	}
	if d, e := disk.Load(nil); d != nil || e != api.ErrArg {
		t.Error("nil", d, e)
	}
	for _, n := range []int{1, 3, api.MaxSectors} {
		image := make([]byte, n*size)
		for i := range image {
			image[i] = byte(i + i/size)
		}
		d, e := disk.Load(image)
		if e != api.OK || d.Count() != n || !bytes.Equal(d.Image(), image) || d.Off() {
			t.Error(n, e, d.Count())
		}
		reads(t, d, n-1, image[(n-1)*size:])
		pends(t, d)
	}
}

func TestImageIsThePlatter(t *testing.T) {
	d := make4(t)
	write(t, d, 1, 'a')
	if !bytes.Equal(d.Image(), make([]byte, 4*size)) {
		t.Error("a pending write is on the platter")
	}
	d.Flush()
	if !bytes.Equal(d.Image(), slices.Concat(of(0), of('a'), of(0), of(0))) {
		t.Error("a flushed write is not on the platter")
	}
}

// P2.2

func TestNoSuchSector(t *testing.T) {
	d := make4(t)
	for _, n := range []int{math.MinInt, -1, 4, api.MaxSectors, math.MaxInt>>8 + 1, math.MaxInt} {
		if b, e := d.Read(n); b != nil || e != api.ErrSector {
			t.Error("Read", n, b, e)
		}
		if e := d.Write(n, of(1)); e != api.ErrSector {
			t.Error("Write", n, e)
		}
		if e := d.Write(n, nil); e != api.ErrSector {
			t.Error("Write of nil", n, e)
		}
	}
	pends(t, d)
}

func TestWriteOfNoSector(t *testing.T) {
	d := make4(t)
	for _, n := range []int{0, 1, size - 1, size + 1, 2 * size} {
		if e := d.Write(3, make([]byte, n)); e != api.ErrArg {
			t.Error(n, e)
		}
	}
	if e := d.Write(3, nil); e != api.ErrArg {
		t.Error("nil", e)
	}
	pends(t, d)
}

func TestReadIsTheLastWrite(t *testing.T) {
	d := make4(t)
	write(t, d, 3, 'a')
	d.Flush()
	reads(t, d, 3, of('a'))
	write(t, d, 0, 'b')
	write(t, d, 3, 'c')
	write(t, d, 0, 'd')
	reads(t, d, 0, of('d'))
	reads(t, d, 1, of(0))
	reads(t, d, 3, of('c'))
	pends(t, d, 0, 3, 0)
}

func TestFlush(t *testing.T) {
	d := make4(t)
	if n := d.Flush(); n != 0 {
		t.Error("nothing", n)
	}
	write(t, d, 2, 'a')
	write(t, d, 1, 'b')
	write(t, d, 2, 'c')
	if n := d.Flush(); n != 3 {
		t.Error("three", n)
	}
	pends(t, d)
	reads(t, d, 1, of('b'))
	reads(t, d, 2, of('c'))
	if !bytes.Equal(d.Image(), slices.Concat(of(0), of('b'), of('c'), of(0))) {
		t.Error("Image")
	}
	if n := d.Flush(); n != 0 {
		t.Error("twice", n)
	}
}

// P2.3

func TestPowerGoes(t *testing.T) {
	d := make4(t)
	write(t, d, 0, 'a')
	d.Stop(3)
	write(t, d, 1, 'b')
	if n := d.Flush(); n != 2 || d.Off() {
		t.Error("the second", n, d.Off())
	}
	write(t, d, 2, 'c')
	if !d.Off() {
		t.Error("the power is not gone behind the third")
	}
	write(t, d, 3, 'd')
	if n := d.Flush(); n != 0 || !d.Off() {
		t.Error("a Flush without power", n, d.Off())
	}
	pends(t, d, 2)
	reads(t, d, 2, of('c'))
	reads(t, d, 3, of(0))
	if !bytes.Equal(d.Image(), slices.Concat(of('a'), of('b'), of(0), of(0))) {
		t.Error("Image")
	}
}

func TestFlushOfNothingIsAnOperation(t *testing.T) {
	d := make4(t)
	d.Stop(1)
	if d.Flush() != 0 || !d.Off() {
		t.Error("Off", d.Off())
	}
}

func TestRefusedAndReadsAreNoOperations(t *testing.T) {
	d := make4(t)
	d.Stop(1)
	d.Write(4, of(1))
	d.Write(0, nil)
	d.Read(0)
	d.Read(4)
	d.Crash([]api.Torn{{At: 0, Bytes: 1}})
	if d.Off() {
		t.Error("the power is gone")
	}
	write(t, d, 0, 'a')
	reads(t, d, 0, of('a'))
	if !d.Off() {
		t.Error("the power is not gone")
	}
}

func TestRefusedWithoutPower(t *testing.T) {
	d := make4(t)
	d.Stop(0)
	if e := d.Write(4, of(1)); e != api.ErrSector {
		t.Error("no such sector", e)
	}
	if e := d.Write(0, nil); e != api.ErrArg {
		t.Error("no 512 bytes", e)
	}
	if b, e := d.Read(4); b != nil || e != api.ErrSector {
		t.Error("Read", b, e)
	}
}

func TestStopAtOnceAndNotAnyMore(t *testing.T) {
	d := make4(t)
	write(t, d, 0, 'a')
	d.Stop(0)
	if !d.Off() || d.Flush() != 0 {
		t.Error("the power is not gone at once")
	}
	pends(t, d, 0)
	for _, n := range []int{-1, -2, math.MinInt} {
		d.Stop(0)
		d.Stop(n)
		if d.Off() {
			t.Error("the power is gone", n)
		}
		for range 5 {
			write(t, d, 1, 'b')
		}
		if n := d.Flush(); n < 5 || d.Off() {
			t.Error("Flush", n)
		}
	}
	d.Stop(math.MaxInt)
	write(t, d, 1, 'c')
	d.Stop(2)
	d.Stop(1)
	write(t, d, 1, 'd')
	if !d.Off() {
		t.Error("the second Stop did not hold")
	}
}

// P2.4

func TestCrashRefuses(t *testing.T) {
	d := make4(t)
	write(t, d, 0, 'a')
	write(t, d, 1, 'b')
	write(t, d, 2, 'c')
	d.Stop(0)
	for i, l := range [][]api.Torn{
		{{At: -1, Bytes: 1}}, {{At: math.MinInt, Bytes: 1}}, {{At: 3, Bytes: 1}}, {{At: math.MaxInt, Bytes: 1}},
		{{At: 0, Bytes: 0}}, {{At: 0, Bytes: -1}}, {{At: 0, Bytes: size + 1}}, {{At: 0, Bytes: math.MaxInt}},
		{{At: 1, Bytes: 1}, {At: 1, Bytes: 1}}, {{At: 1, Bytes: 1}, {At: 0, Bytes: 1}},
		{{At: 0, Bytes: size}, {At: 1, Bytes: size}, {At: 3, Bytes: size}},
		{{At: 0, Bytes: size}, {At: 2, Bytes: size}, {At: 1, Bytes: size}},
		{{At: math.MaxInt, Bytes: 1}, {At: math.MinInt, Bytes: 1}},
		{{}},
	} {
		if e := d.Crash(l); e != api.ErrArg {
			t.Error("list", i, e)
		}
	}
	pends(t, d, 0, 1, 2)
	reads(t, d, 0, of('a'))
	if !d.Off() || !bytes.Equal(d.Image(), make([]byte, 4*size)) {
		t.Error("a refused crash has changed something")
	}
	if e := make4(t).Crash([]api.Torn{{At: 0, Bytes: 1}}); e != api.ErrArg {
		t.Error("of nothing pending", e)
	}
}

func TestCrashKeepsInOrder(t *testing.T) {
	d := make4(t)
	write(t, d, 3, 'a')
	write(t, d, 3, 'b')
	write(t, d, 2, 'c')
	write(t, d, 1, 'd')
	if e := d.Crash([]api.Torn{{At: 0, Bytes: 4}, {At: 1, Bytes: 2}, {At: 3, Bytes: size}}); e != api.OK {
		t.Fatal(e)
	}
	pends(t, d)
	reads(t, d, 3, append([]byte("bbaa"), make([]byte, size-4)...))
	reads(t, d, 2, of(0))
	reads(t, d, 1, of('d'))
}

func TestCrashLeavesTheRestOfTheSector(t *testing.T) {
	d := make4(t)
	write(t, d, 0, 'a')
	d.Flush()
	write(t, d, 0, 'b')
	d.Crash([]api.Torn{{At: 0, Bytes: size - 1}})
	reads(t, d, 0, append(of('b')[:size-1], 'a'))
}

func TestCrashBringsThePowerBack(t *testing.T) {
	for _, stop := range []int{0, 1, 2} {
		d := make4(t)
		d.Stop(stop)
		if e := d.Crash(nil); e != api.OK || d.Off() {
			t.Error(stop, e, d.Off())
		}
		for range 5 {
			write(t, d, 1, 'a')
		}
		if d.Off() || d.Flush() != 5 {
			t.Error(stop, "something is still stopped")
		}
	}
}

// P2.5

func TestCounts(t *testing.T) {
	d := make4(t)
	counted(t, d, 0, 0, 0)
	d.Read(0)
	d.Read(-1)
	d.Read(4)
	write(t, d, 0, 'a')
	write(t, d, 1, 'a')
	d.Write(4, of(1))
	d.Write(0, nil)
	d.Flush()
	d.Flush()
	d.Flush()
	counted(t, d, 1, 2, 3)
	d.Stop(0)
	d.Read(0)
	d.Write(0, of(1))
	d.Flush()
	counted(t, d, 2, 2, 3)
	d.Pending()
	d.Image()
	d.Crash(nil)
	counted(t, d, 2, 2, 3)
}

func TestForkGoesOnByItself(t *testing.T) {
	d := make4(t)
	write(t, d, 0, 'a')
	d.Flush()
	write(t, d, 1, 'b')
	d.Read(1)
	d.Stop(2)
	f := d.Fork()
	if f.Count() != 4 || f.Off() || !bytes.Equal(f.Image(), d.Image()) {
		t.Error("it is another one")
	}
	pends(t, f, 1)
	counted(t, f, 1, 2, 1)
	write(t, d, 1, 'c')
	write(t, f, 2, 'd')
	pends(t, d, 1, 1)
	pends(t, f, 1, 2)
	reads(t, f, 1, of('b'))
	reads(t, d, 2, of(0))
	d.Flush()
	if !d.Off() || f.Off() {
		t.Error("the power", d.Off(), f.Off())
	}
	if !bytes.Equal(f.Image(), slices.Concat(of('a'), of(0), of(0), of(0))) {
		t.Error("a flush of one is one of both")
	}
	f.Flush()
	if !f.Off() || !bytes.Equal(d.Image(), slices.Concat(of('a'), of('c'), of(0), of(0))) {
		t.Error("a flush of one is one of both")
	}
	counted(t, f, 2, 3, 2)
	counted(t, d, 2, 3, 2)
}

func TestOfNoDisk(t *testing.T) {
	for _, d := range []*disk.Disk{nil, {}} {
		d.Stop(0)
		if d.Count() != 0 || d.Flush() != 0 || d.Off() || d.Fork() != nil {
			t.Error("Count, Flush, Off, Fork")
		}
		if d.Pending() != nil || d.Image() != nil {
			t.Error("Pending, Image")
		}
		if b, e := d.Read(-1); b != nil || e != api.ErrClosed {
			t.Error("Read", b, e)
		}
		if e := d.Write(-1, nil); e != api.ErrClosed {
			t.Error("Write", e)
		}
		if e := d.Crash([]api.Torn{{}}); e != api.ErrClosed {
			t.Error("Crash", e)
		}
		counted(t, d, 0, 0, 0)
	}
}

// P2.6

func TestFlushedStays(t *testing.T) {
	for _, l := range [][]api.Torn{nil, {{At: 0, Bytes: 7}}, {{At: 1, Bytes: size}}, {{At: 0, Bytes: size}, {At: 1, Bytes: 1}}} {
		d := make4(t)
		write(t, d, 0, 'a')
		write(t, d, 3, 'b')
		d.Flush()
		write(t, d, 1, 'c')
		write(t, d, 2, 'd')
		d.Crash(l)
		reads(t, d, 0, of('a'))
		reads(t, d, 3, of('b'))
	}
}

// P2.7

func TestCrashOfAllIsAFlush(t *testing.T) {
	d := make4(t)
	var l []api.Torn
	for i, n := range []int{3, 1, 3, 0} {
		write(t, d, n, byte('a'+i))
		l = append(l, api.Torn{At: i, Bytes: size})
	}
	f := d.Fork()
	f.Flush()
	d.Crash(l)
	if !bytes.Equal(d.Image(), f.Image()) {
		t.Error("it is another platter")
	}
}

func TestCrashOfNothingLeavesThePlatter(t *testing.T) {
	for _, l := range [][]api.Torn{nil, {}} {
		d := make4(t)
		write(t, d, 0, 'a')
		d.Flush()
		was := d.Image()
		write(t, d, 0, 'b')
		write(t, d, 1, 'c')
		if e := d.Crash(l); e != api.OK || !bytes.Equal(d.Image(), was) {
			t.Error("Crash", e)
		}
		pends(t, d)
		reads(t, d, 0, of('a'))
		reads(t, d, 1, of(0))
	}
}

// R3

func TestAnswersAreNewMemory(t *testing.T) {
	image := slices.Concat(of('a'), of('b'))
	d, _ := disk.Load(image)
	clear(image)
	write(t, d, 1, 'c')
	for range 2 {
		for n := range 2 {
			b, _ := d.Read(n)
			clear(b[:cap(b)])
		}
		b, l := d.Image(), d.Pending()
		clear(b[:cap(b)])
		l[0] = 0
	}
	reads(t, d, 0, of('a'))
	reads(t, d, 1, of('c'))
	pends(t, d, 1)
	if !bytes.Equal(d.Image(), slices.Concat(of('a'), of('b'))) {
		t.Error("Image")
	}
}

func TestArgumentsAreLeftAndNotKept(t *testing.T) {
	d := make4(t)
	room := slices.Concat(of('a'), of('b'))
	d.Write(0, room[:size])
	l := []api.Torn{{At: 0, Bytes: 3}, {At: 9, Bytes: 9}}
	clear(room[:size])
	reads(t, d, 0, of('a'))
	d.Crash(l[:1])
	if !bytes.Equal(room[size:], of('b')) || l[0] != (api.Torn{At: 0, Bytes: 3}) || l[1] != (api.Torn{At: 9, Bytes: 9}) {
		t.Error("an argument has changed")
	}
}
