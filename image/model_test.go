package image_test

import (
	"bytes"
	"slices"
	"testing"

	"parapet/api"
	"parapet/image"
)

// dice are numbers that are the same in each run.
type dice uint64

func (d *dice) below(n int) int {
	*d = *d*6364136223846793005 + 1442695040888963407
	return int(uint64(*d)>>33) % n
}

// model is the image that bytes are, gone through byte by byte, and whether there is one.
func model(b []byte) (x api.Image, ok bool) {
	at := func(i int) int { return int(b[i]) + 256*int(b[i+1]) }
	if len(b) < 10 || len(b) > 16384 || b[0] != 'P' || b[1] != 'X' || b[2] != 'E' || b[3] != '1' {
		return x, false
	}
	entry, segments, zeros := at(4), at(6), at(8)
	data := 10 + 4*segments + 4*zeros
	if entry%4 != 0 || segments > 16 || zeros > 16 || len(b) < data {
		return x, false
	}
	x.Entry = entry
	twice, whose := false, map[int]int{} // of each page: the part that reaches it
	own := func(page, part int) {
		if other, ok := whose[page]; ok && other != part {
			twice = true
		}
		whose[page] = part
	}
	for i := range segments {
		addr, n := at(10+4*i), at(12+4*i)
		if addr%256 != 0 || n == 0 || addr+n > 32768 || data+n > len(b) {
			return x, false
		}
		for a := addr; a < addr+n; a++ {
			own(a/256, i)
		}
		x.Segments = append(x.Segments, api.Segment{Addr: addr, Bytes: b[data : data+n]})
		data += n
	}
	for i := range zeros {
		from, n := at(10+4*segments+4*i), at(12+4*segments+4*i)
		if n == 0 || from+n > 128 {
			return x, false
		}
		for page := from; page < from+n; page++ {
			own(page, segments+i)
		}
		x.Zero = append(x.Zero, api.Region{First: from, Count: n})
	}
	return x, data == len(b) && !twice
}

// reached is how many pages an image's parts have together.
func reached(x api.Image) int {
	n := 0
	for _, g := range x.Segments {
		n += (len(g.Bytes) + 255) / 256
	}
	for _, r := range x.Zero {
		n += r.Count
	}
	return n
}

// holds holds what Parse, Check, Make and Pages tell of bytes, and of the image that they are.
func holds(t *testing.T, b []byte) bool {
	t.Helper()
	want, ok := model(b)
	was := slices.Clone(b)
	x, e := image.Parse(b)
	if !bytes.Equal(b, was) {
		t.Fatal("Parse has changed its bytes")
	}
	if !ok {
		if e != api.ErrImage || !same(x, api.Image{}) {
			t.Fatalf("Parse of no image: %v: %v %v", b, x, e)
		}
		return false
	}
	if e != api.OK || !same(x, want) {
		t.Fatalf("Parse: %v: %v %v", b, x, e)
	}
	if e := image.Check(x); e != api.OK || image.Pages(x) != reached(x) {
		t.Fatalf("%v: %v %d", b, e, image.Pages(x))
	}
	if made, e := image.Make(x); e != api.OK || !bytes.Equal(made, b) {
		t.Fatalf("Make of Parse: %v: %v %v", b, made, e)
	}
	return true
}

// drawn is an image that often may be.
func (d *dice) drawn() api.Image {
	x := api.Image{Entry: 4 * d.below(16384)}
	if d.below(20) == 0 {
		x.Entry++
	}
	page := 0
	for range d.below(6) {
		page += d.below(20)
		g := seg(256*page, 1+d.below(700))
		page += (len(g.Bytes) + 255) / 256
		x.Segments = append(x.Segments, g)
	}
	for range d.below(6) {
		page += d.below(20)
		r := api.Region{First: page, Count: 1 + d.below(6)}
		page += r.Count
		x.Zero = append(x.Zero, r)
	}
	if d.below(4) == 0 {
		slices.Reverse(x.Segments)
		slices.Reverse(x.Zero)
	}
	if n := len(x.Zero); n > 0 && d.below(8) == 0 {
		x.Zero[d.below(n)].First = d.below(130)
	}
	if n := len(x.Segments); n > 0 && d.below(8) == 0 {
		x.Segments[d.below(n)].Addr = 128 * d.below(260)
	}
	return x
}

// written is the bytes by which an image would be told, whether it may be or not.
func written(x api.Image) []byte {
	var b, data []byte
	put := func(n int) { b = append(b, byte(n%256), byte(n/256)) }
	b = append(b, 'P', 'X', 'E', '1')
	put(x.Entry)
	put(len(x.Segments))
	put(len(x.Zero))
	for _, g := range x.Segments {
		put(g.Addr)
		put(len(g.Bytes))
		data = append(data, g.Bytes...)
	}
	for _, r := range x.Zero {
		put(r.First)
		put(r.Count)
	}
	return append(b, data...)
}

// P23.1, P23.3: of images that may be, and such that may not, Check, Make and Parse agree with what their bytes say.
func TestAgainstModel(t *testing.T) {
	d := dice(23)
	may := 0
	for range 1500 {
		x := d.drawn()
		b := written(x)
		if !holds(t, b) {
			mayNot(t, "an image", x)
			continue
		}
		may++
		if made, e := image.Make(x); e != api.OK || !bytes.Equal(made, b) {
			t.Fatal("Make", x, e)
		}
		if y, e := image.Parse(b); e != api.OK || !same(x, y) {
			t.Fatal("Parse of Make", x, y, e)
		}
	}
	if may < 300 || may > 1300 {
		t.Error("images that may be", may)
	}
}

// Bytes of an image with something turned, cut off, put in.
func TestParseOfTurnedBytes(t *testing.T) {
	d := dice(32)
	may := 0
	for range 4000 {
		b := written(d.drawn())
		for range 1 + d.below(3) {
			at := d.below(min(len(b), 60))
			switch d.below(4) {
			case 0:
				b[at] = byte(d.below(256))
			case 1:
				b[at] ^= 1 << d.below(8)
			case 2:
				b = slices.Delete(b, at, at+1)
			default:
				b = slices.Insert(b, at, byte(d.below(4)))
			}
		}
		if holds(t, b) {
			may++
		}
	}
	if may < 50 {
		t.Error("images among them", may)
	}
}

// Each byte of one image turned to each other one.
func TestParseOfEachByteTurned(t *testing.T) {
	b := written(api.Image{Entry: 40, Segments: []api.Segment{seg(0, 5), seg(512, 3)}, Zero: []api.Region{{First: 4, Count: 2}, {First: 1, Count: 1}}})
	for i := range b {
		was := b[i]
		for x := range 256 {
			b[i] = byte(x)
			holds(t, b)
		}
		b[i] = was
	}
}

// Lay gives a space the image's bytes, page by page, whatever the image.
func TestLayAgainstModel(t *testing.T) {
	d := dice(322)
	for range 300 {
		x := d.drawn()
		r := rigged(t, 80)
		if image.Check(x) != api.OK {
			r.lays("what may not be", 0, x, api.ErrImage)
			continue
		}
		r.lays("an image", d.below(2), x, api.OK)
		memory := map[int][]byte{} // by pages
		for _, g := range x.Segments {
			for i, b := range g.Bytes {
				page := (g.Addr + i) / 256
				memory[page] = append(memory[page], b)
			}
		}
		for page, b := range memory {
			r.loaded(page, b)
		}
		n := 0
		for page := range api.Pages {
			if r.s.Has(page) {
				n++
			}
		}
		if n != image.Pages(x) {
			t.Fatal("pages", n, image.Pages(x))
		}
		for _, z := range x.Zero {
			for i := range z.Count {
				r.empty(z.First + i)
			}
		}
	}
}
