package image_test

import (
	"bytes"
	"math"
	"slices"
	"strings"
	"testing"

	"parapet/api"
	"parapet/image"
)

// seg is a Segment of so many bytes, none of them 0.
func seg(addr, count int) api.Segment {
	b := make([]byte, count)
	for i := range b {
		b[i] = byte(1 + (addr/api.PageSize+i)%255)
	}
	return api.Segment{Addr: addr, Bytes: b}
}

// same tells whether two images are the same; nil and the empty list are.
func same(x, y api.Image) bool {
	return x.Entry == y.Entry && slices.Equal(x.Zero, y.Zero) && slices.EqualFunc(x.Segments, y.Segments, func(a, b api.Segment) bool {
		return a.Addr == b.Addr && bytes.Equal(a.Bytes, b.Bytes)
	})
}

// copied is the same image in other memory.
func copied(x api.Image) api.Image {
	x.Segments, x.Zero = slices.Clone(x.Segments), slices.Clone(x.Zero)
	for i, g := range x.Segments {
		x.Segments[i].Bytes = slices.Clone(g.Bytes)
	}
	return x
}

// may holds that an image may be, how many bytes and pages it has, and that its bytes are it.
func may(t *testing.T, what string, x api.Image, count, pages int) []byte {
	t.Helper()
	if e := image.Check(x); e != api.OK {
		t.Errorf("%s: Check: %v", what, e)
	}
	if n := image.Pages(x); n != pages {
		t.Errorf("%s: Pages: %d, not %d", what, n, pages)
	}
	b, e := image.Make(x)
	if len(b) != count || e != api.OK {
		t.Errorf("%s: Make: %d bytes, %v, not %d", what, len(b), e, count)
	}
	if y, e := image.Parse(b); !same(x, y) || e != api.OK {
		t.Errorf("%s: Parse of Make: %v", what, e)
	}
	return b
}

// mayNot holds that it is refused, whoever is asked.
func mayNot(t *testing.T, what string, x api.Image) {
	t.Helper()
	if e := image.Check(x); e != api.ErrImage {
		t.Errorf("%s: Check: %v", what, e)
	}
	if n := image.Pages(x); n != 0 {
		t.Errorf("%s: Pages: %d", what, n)
	}
	if b, e := image.Make(x); len(b) != 0 || e != api.ErrImage {
		t.Errorf("%s: Make: %d bytes, %v", what, len(b), e)
	}
	if e := image.Lay(nil, 0, x); e != api.ErrImage {
		t.Errorf("%s: Lay: %v", what, e)
	}
}

// parseRefuses holds that some bytes are no image's.
func parseRefuses(t *testing.T, what string, b []byte) {
	t.Helper()
	if x, e := image.Parse(b); !same(x, api.Image{}) || e != api.ErrImage {
		t.Errorf("%s: Parse: %v %v", what, x, e)
	}
}

// ofZero is an image without Segments.
func ofZero(l ...api.Region) api.Image {
	return api.Image{Zero: l}
}

// ofSegments is an image without regions.
func ofSegments(l ...api.Segment) api.Image {
	return api.Image{Segments: l}
}

// P23.1

func TestEntry(t *testing.T) {
	for _, at := range []int{0, 4, 8, 252, 256, 32768, 65528, 65532} {
		b := may(t, "Entry", api.Image{Entry: at}, 10, 0)
		if int(b[4])+256*int(b[5]) != at {
			t.Error("Entry", at, b)
		}
	}
	for _, at := range []int{1, 2, 3, 5, 65533, 65535, 65536, 65540, 1 << 32, -1, -4, math.MinInt, math.MaxInt, math.MaxInt - 3} {
		mayNot(t, "Entry", api.Image{Entry: at})
	}
}

func TestSegmentsAddr(t *testing.T) {
	for _, at := range []int{0, 256, 512, 127 * 256} {
		may(t, "Addr", ofSegments(seg(at, 1)), 15, 1)
		may(t, "Addr", ofSegments(seg(at, 256)), 270, 1)
	}
	for _, at := range []int{1, 4, 128, 255, 257, 127*256 + 255, -1, -255, -256, -512, 128 * 256, 129 * 256, 255 * 256, 65536, 1 << 40, math.MinInt, math.MaxInt, math.MaxInt - 255} {
		mayNot(t, "Addr", ofSegments(api.Segment{Addr: at, Bytes: []byte{7}}))
		mayNot(t, "Addr behind another one", ofSegments(seg(0, 3), api.Segment{Addr: at, Bytes: []byte{7}}))
	}
}

func TestSegmentsBytes(t *testing.T) {
	mayNot(t, "no bytes", ofSegments(api.Segment{Addr: 256}))
	mayNot(t, "no bytes", ofSegments(api.Segment{Addr: 256, Bytes: []byte{}}))
	mayNot(t, "no bytes behind another one", ofSegments(seg(0, 3), api.Segment{Addr: 256}))
	for _, x := range []struct{ count, pages int }{{1, 1}, {255, 1}, {256, 1}, {257, 2}, {512, 2}, {513, 3}, {1000, 4}} {
		may(t, "bytes", ofSegments(seg(0, x.count)), 14+x.count, x.pages)
		last := api.Pages/2 - x.pages
		may(t, "the last pages", ofSegments(seg(256*last, x.count)), 14+x.count, x.pages)
		mayNot(t, "a page too far", ofSegments(seg(256*(last+1), x.count)))
	}
}

func TestZero(t *testing.T) {
	for _, r := range []api.Region{{First: 0, Count: 1}, {First: 0, Count: 128}, {First: 127, Count: 1}, {First: 1, Count: 127}, {First: 64, Count: 64}} {
		may(t, "Zero", ofZero(r), 14, r.Count)
	}
	for _, r := range []api.Region{
		{First: 0, Count: 0}, {First: 5, Count: 0}, {First: 5, Count: -1}, {First: 5, Count: math.MinInt},
		{First: -1, Count: 1}, {First: -1, Count: 2}, {First: -128, Count: 129}, {First: math.MinInt, Count: 1}, {First: math.MinInt, Count: math.MaxInt},
		{First: 0, Count: 129}, {First: 127, Count: 2}, {First: 128, Count: 1}, {First: 128, Count: 0}, {First: 129, Count: -1}, {First: 255, Count: 1},
		{First: 3, Count: math.MaxInt}, {First: math.MaxInt, Count: 1}, {First: math.MaxInt, Count: math.MaxInt}, {First: math.MaxInt, Count: math.MinInt},
		{First: 65536, Count: 1}, {First: 0, Count: 65537},
	} {
		mayNot(t, "Zero", ofZero(r))
		mayNot(t, "Zero behind another one", ofZero(api.Region{First: 126, Count: 1}, r))
	}
}

func TestNoPageIsReachedTwice(t *testing.T) {
	one := api.Region{First: 2, Count: 3} // pages 2 to 4
	for _, first := range []int{0, 1, 2, 3, 4, 5} {
		apart := first < 1 || first > 4
		other := api.Region{First: first, Count: 2}
		for what, x := range map[string]api.Image{
			"two regions":          ofZero(one, other),
			"two the other way":    ofZero(other, one),
			"two Segments":         ofSegments(seg(2*256, 513), seg(first*256, 257)),
			"a Segment, a region":  {Segments: []api.Segment{seg(2*256, 513)}, Zero: []api.Region{other}},
			"a region, a Segment":  {Segments: []api.Segment{seg(first*256, 257)}, Zero: []api.Region{one}},
			"with one in between ": {Segments: []api.Segment{seg(first*256, 257), seg(9*256, 1)}, Zero: []api.Region{{First: 20, Count: 5}, one}},
		} {
			if !apart {
				mayNot(t, what, x)
			} else if e := image.Check(x); e != api.OK {
				t.Error(what, first, e)
			}
		}
	}
	may(t, "page by page", ofZero(api.Region{First: 5, Count: 1}, api.Region{First: 4, Count: 1}, api.Region{First: 6, Count: 1}), 22, 3)
	mayNot(t, "the same Segment twice", ofSegments(seg(0, 1), seg(0, 1)))
	mayNot(t, "a page that just one byte reaches", ofSegments(seg(0, 257), seg(256, 1)))
	mayNot(t, "in the last page", api.Image{Segments: []api.Segment{seg(127*256, 9)}, Zero: []api.Region{{First: 100, Count: 28}}})
}

func TestHowManySegmentsAndRegions(t *testing.T) {
	var x api.Image
	for i := range 16 {
		x.Segments = append(x.Segments, seg(i*512, 2))
		x.Zero = append(x.Zero, api.Region{First: 2*i + 1, Count: 1})
	}
	may(t, "16 and 16", x, 10+16*4+16*4+32, 32)
	may(t, "16 Segments", ofSegments(x.Segments...), 10+16*4+32, 16)
	may(t, "16 regions", ofZero(x.Zero...), 10+16*4, 16)
	mayNot(t, "17 Segments", ofSegments(append(slices.Clone(x.Segments), seg(100*256, 1))...))
	mayNot(t, "17 regions", ofZero(append(slices.Clone(x.Zero), api.Region{First: 100, Count: 1})...))
	mayNot(t, "far too many", ofSegments(make([]api.Segment, 1<<16)...))
	mayNot(t, "far too many", ofZero(make([]api.Region, 1<<16)...))
}

// What comes to MaxImage is all of its bytes, not those of Segments alone.
func TestHowManyBytes(t *testing.T) {
	may(t, "the most", ofSegments(seg(0, 16370)), 16384, 64)
	mayNot(t, "one more", ofSegments(seg(0, 16371)))
	mayNot(t, "as many in a Segment", ofSegments(seg(0, 16384)))
	mayNot(t, "all pages", ofSegments(seg(0, 128*256)))
	mayNot(t, "more than 16 bits tell of", ofSegments(seg(0, 65536+10)))
	two := []api.Segment{seg(64*256, 8000), seg(0, 8366)}
	may(t, "two", ofSegments(two...), 16384, 65)
	mayNot(t, "two and a region", api.Image{Segments: two, Zero: []api.Region{{First: 127, Count: 1}}})
	two[1] = seg(0, 8362)
	may(t, "two and a region", api.Image{Segments: two, Zero: []api.Region{{First: 127, Count: 1}}}, 16384, 66)
}

// Each number is told by 16 bits, the lowest byte first, and each part in its place.
func TestMake(t *testing.T) {
	x := api.Image{
		Entry:    0x1234,
		Segments: []api.Segment{{Addr: 0x7f00, Bytes: []byte("abc")}, {Addr: 0x100, Bytes: bytes.Repeat([]byte{0}, 0x203)}},
		Zero:     []api.Region{{First: 9, Count: 2}, {First: 0, Count: 1}, {First: 16, Count: 100}},
	}
	want := "PXE1" + "\x34\x12\x02\x00\x03\x00" +
		"\x00\x7f\x03\x00" + "\x00\x01\x03\x02" +
		"\x09\x00\x02\x00" + "\x00\x00\x01\x00" + "\x10\x00\x64\x00" +
		"abc" + strings.Repeat("\x00", 0x203)
	if b := may(t, "Make", x, len(want), 1+3+103); string(b) != want {
		t.Errorf("%q", b)
	}
	may(t, "nothing", api.Image{}, 10, 0)
}

func TestExample(t *testing.T) {
	b := may(t, "the example", ofSegments(api.Segment{Bytes: []byte{0x1c, 0, 0, 0}}), 18, 1)
	if want := "PXE1\x00\x00\x01\x00\x00\x00\x00\x00\x04\x00\x1c\x00\x00\x00"; string(b) != want {
		t.Errorf("%q", b)
	}
}

func TestParseRefuses(t *testing.T) {
	good := "PXE1\x10\x00\x01\x00\x01\x00" + "\x00\x01\x02\x00" + "\x03\x00\x01\x00" + "hi"
	if x, e := image.Parse([]byte(good)); !same(x, api.Image{Entry: 16, Segments: []api.Segment{{Addr: 256, Bytes: []byte("hi")}}, Zero: []api.Region{{First: 3, Count: 1}}}) || e != api.OK {
		t.Fatal("Parse", x, e)
	}
	parseRefuses(t, "nothing", nil)
	for n := range good {
		parseRefuses(t, "a part of it", []byte(good[:n]))
	}
	parseRefuses(t, "a byte more", []byte(good+"\x00"))
	parseRefuses(t, "twice", []byte(good+good))
	for what, b := range map[string]string{
		"a small letter":            "PXe1" + good[4:],
		"another number":            "PXE2" + good[4:],
		"another beginning":         "\x7fELF" + good[4:],
		"an Entry that may not be":  "PXE1\x11" + good[5:],
		"more Segments than stand":  "PXE1\x10\x00\x02\x00\x01\x00" + good[10:],
		"fewer Segments":            "PXE1\x10\x00\x00\x00\x01\x00" + good[10:],
		"more regions":              "PXE1\x10\x00\x01\x00\x02\x00" + good[10:],
		"fewer regions":             "PXE1\x10\x00\x01\x00\x00\x00" + good[10:],
		"the most Segments":         "PXE1\x10\x00\xff\xff\x01\x00" + good[10:],
		"the most regions":          "PXE1\x10\x00\x01\x00\xff\xff" + good[10:],
		"an Addr that may not be":   good[:10] + "\x01\x01" + good[12:],
		"an Addr too far":           good[:10] + "\x00\x80" + good[12:],
		"a Segment without bytes":   good[:12] + "\x00\x00" + good[14:],
		"a Segment of fewer bytes":  good[:12] + "\x01\x00" + good[14:],
		"a Segment of more":         good[:12] + "\x03\x00" + good[14:],
		"a Segment of the most":     good[:12] + "\xff\xff" + good[14:],
		"a region too far":          good[:14] + "\x80\x00" + good[16:],
		"a region of none":          good[:16] + "\x00\x00" + good[18:],
		"a region of too many":      good[:16] + "\x7e\x00" + good[18:],
		"a region where bytes are":  good[:14] + "\x01\x00" + good[16:],
		"a region, 256 times as it": good[:14] + "\x00\x03" + good[16:],
	} {
		parseRefuses(t, what, []byte(b))
	}
	parseRefuses(t, "zeros", make([]byte, 18))
	parseRefuses(t, "a great many bytes", append([]byte(good), make([]byte, 1<<20)...))
	parseRefuses(t, "a great many of the most", append([]byte("PXE1\x00\x00\xff\xff\xff\xff"), bytes.Repeat([]byte{0xff}, 1<<21)...))
}

// 17 Segments, or regions, none of which is at fault by itself.
func TestParseOfTooMany(t *testing.T) {
	for n := 15; n <= 18; n++ {
		segments := "PXE1\x00\x00" + string([]byte{byte(n), 0}) + "\x00\x00"
		zeros := "PXE1\x00\x00\x00\x00" + string([]byte{byte(n), 0})
		for i := range n {
			segments += "\x00" + string([]byte{byte(i)}) + "\x01\x00"
			zeros += string([]byte{byte(i), 0}) + "\x01\x00"
		}
		segments += strings.Repeat("x", n)
		for _, b := range []string{segments, zeros} {
			if n > 16 {
				parseRefuses(t, "too many", []byte(b))
			} else if x, e := image.Parse([]byte(b)); e != api.OK || image.Pages(x) != n {
				t.Error("Parse", n, e, image.Pages(x))
			}
		}
	}
}

func TestParseOfTooManyBytes(t *testing.T) {
	for _, n := range []int{16369, 16370, 16371, 16384} {
		b := append([]byte{'P', 'X', 'E', '1', 0, 0, 1, 0, 0, 0, 0, 0, byte(n), byte(n >> 8)}, make([]byte, n)...)
		if n > 16370 {
			parseRefuses(t, "too many bytes", b)
		} else if x, e := image.Parse(b); e != api.OK || len(x.Segments) != 1 || len(x.Segments[0].Bytes) != n {
			t.Error("Parse", n, e)
		}
	}
}

// R3

func TestNothingThatIsHandedInIsChangedOrKept(t *testing.T) {
	room := make([]api.Segment, 2, 5)
	room[0], room[1] = seg(0, 300), seg(1024, 5)
	room[:3][2] = api.Segment{Addr: 99}
	spare := make([]api.Region, 1, 4)
	spare[0] = api.Region{First: 30, Count: 3}
	spare[:2][1] = api.Region{First: -5}
	x := api.Image{Entry: 8, Segments: room, Zero: spare}
	was := copied(x)
	b := may(t, "room behind", x, 10+8+4+305, 6)
	if !same(x, was) || room[:3][2].Addr != 99 || spare[:2][1].First != -5 {
		t.Error("Make has changed what it was given")
	}
	mine := slices.Clone(b)
	room[0].Bytes[0]++
	if !bytes.Equal(b, mine) {
		t.Error("Make's bytes are the Segment's")
	}
	y, _ := image.Parse(b)
	for i := range b {
		b[i] = 0xee
	}
	if !same(y, was) {
		t.Error("Parse has kept its bytes", y)
	}
}

func TestWhatParseTellsSharesNothing(t *testing.T) {
	b, _ := image.Make(api.Image{Segments: []api.Segment{seg(0, 3), seg(256, 3), seg(512, 300)}, Zero: []api.Region{{First: 9, Count: 1}, {First: 19, Count: 1}}})
	was := slices.Clone(b)
	one, _ := image.Parse(b)
	two, _ := image.Parse(b)
	kept := copied(two)
	for i := range one.Segments {
		third := copied(one)
		l := one.Segments[i].Bytes
		l = l[:cap(l)]
		for j := range l {
			l[j] = 0xdd
		}
		for j, g := range one.Segments {
			if j != i && !bytes.Equal(g.Bytes, third.Segments[j].Bytes) {
				t.Error("two Segments share", i, j)
			}
		}
	}
	for i := range one.Zero[:cap(one.Zero)] {
		one.Zero[:cap(one.Zero)][i] = api.Region{}
	}
	for i := range one.Segments[:cap(one.Segments)] {
		one.Segments[:cap(one.Segments)][i] = api.Segment{}
	}
	if !same(two, kept) || !bytes.Equal(b, was) {
		t.Error("two answers share, or one and its bytes")
	}
}
