package kern_test

import (
	"reflect"
	"slices"
	"strconv"
	"strings"
	"testing"

	"parapet/api"
	"parapet/asm"
	"parapet/image"
	"parapet/kern"
	"parapet/lin"
)

// dice are numbers that are the same in each run.
type dice uint64

func newDice(seed int) *dice {
	d := dice(seed)
	for range 10 {
		d.below(2)
	}
	return &d
}

func (d *dice) below(n int) int {
	*d = *d*6364136223846793005 + 1442695040888963407
	return int(uint64(*d)>>33) % n
}

func (d *dice) of(l ...int) int {
	return l[d.below(len(l))]
}

// assembled is a program's bytes.
func assembled(t testing.TB, text string) []byte {
	t.Helper()
	b, e, line := asm.Assemble(text, 0)
	if e != api.OK {
		t.Fatal("Assemble", e, line, text)
	}
	return b
}

// imaged is the bytes of an image that may be.
func imaged(t testing.TB, x api.Image) string {
	t.Helper()
	b, e := image.Make(x)
	if e != api.OK {
		t.Fatal("image.Make", e)
	}
	return string(b)
}

// Where what programs have lies, beside their text.
const (
	pathsAt = 0x1000 // paths, sixteen bytes each
	zerosAt = 0x1400 // four pages without frames
	deadAt  = 0x1800 // nothing is there, nor behind
)

// paths is what lies there. The last one is too long to be one.
var paths = []string{
	"/", "/a", "/b", "/c", "/d", "/d/a", "/d/b", "/d/e", "/d/e/a", "/e", "/e/d", "/e/a", "/a/x", "/gone/x", "//d//", "a",
	"", "/b/", "/init", "/prog", "/empty", "/d/d", "/e/e", "/x", "//////////////0", "//////////////0", "//////////////0", "//////////////0", "//////////////0",
}

// pathAt is where a path lies.
func pathAt(path string) uint32 {
	return uint32(pathsAt + 16*slices.Index(paths, path))
}

// say is lines that write register 5's lowest byte to the console; it lies at 5124 then.
const say = "li r4, 1\nli r3, 5124\nsb r5, 0(r3)\nli r2, 1\nli r1, 16\nsys\n"

// spelt is a text in which %say stands for those lines, and @ and a path for where that lies.
func spelt(text string) string {
	text = strings.ReplaceAll(text, "%say", say)
	for _, p := range slices.SortedFunc(slices.Values(paths), func(a, b string) int { return len(b) - len(a) }) {
		text = strings.ReplaceAll(text, "@"+p+"\n", strconv.Itoa(int(pathAt(p)))+"\n")
	}
	return text
}

// programmed is the image of a text, with the paths, and four pages of zeros.
func programmed(t testing.TB, text string) string {
	t.Helper()
	var b []byte
	for _, s := range paths {
		b = append(b, (strings.TrimSuffix(s, "0") + strings.Repeat("\x00", 16))[:16]...)
		if strings.HasSuffix(s, "0") { // no byte 0 is in it
			b = append(b[:len(b)-16], "////////////////"...)
		}
	}
	return imaged(t, api.Image{
		Segments: []api.Segment{{Bytes: assembled(t, text)}, {Addr: pathsAt, Bytes: b}},
		Zero:     []api.Region{{First: zerosAt >> 8, Count: (deadAt - zerosAt) >> 8}},
	})
}

// alone is files with nothing but an /init.
func alone(t testing.TB, text string) []api.Placed {
	t.Helper()
	return planted(t, text)
}

// planted is an /init, and other files, in the order in which one walks.
func planted(t testing.TB, text string, more ...api.Placed) []api.Placed {
	t.Helper()
	l := append(more, api.Placed{Path: "/init", Bytes: programmed(t, text)})
	slices.SortFunc(l, func(a, b api.Placed) int {
		return slices.Compare(strings.Split(a.Path, "/"), strings.Split(b.Path, "/"))
	})
	return l
}

// plain is a machine that has enough of everything.
func plain(harts int) api.Config {
	return api.Config{Harts: harts, Frames: 512, Tlb: 16, Heap: 1 << 20, Layout: api.Layout{Sectors: 512, Log: 32, Inodes: 32}}
}

// steady is a life in which the power does not go, and each hart is picked, one behind the other.
func steady(c api.Config, steps int) api.Life {
	l := api.Life{Steps: steps, Stop: -1}
	for i := range steps {
		l.Picks = append(l.Picks, i%c.Harts)
	}
	return l
}

// plays plays lives, and holds what is told against the model, and the machine against itself.
func plays(t testing.TB, c api.Config, files []api.Placed, l ...api.Life) api.Told {
	t.Helper()
	told := kern.Play(c, files, l)
	if told.Err != api.OK {
		t.Fatal("Play", told.Err)
	}
	if ok, at := lin.Explain(files, l, told); !ok {
		explains(t, told, at)
	}
	return told
}

// watched is plays, but the machine is held against itself behind each step.
func watched(t testing.TB, c api.Config, files []api.Placed, l ...api.Life) api.Told {
	t.Helper()
	told := plays(t, c, files, l...)
	again, e := kern.Watch(c, files, l)
	if e != nil {
		t.Fatal(e)
	}
	if !reflect.DeepEqual(told, again) {
		t.Fatal("played again it is told otherwise")
	}
	return told
}

// explains tells why a play can't be explained.
func explains(t testing.TB, told api.Told, at int) {
	t.Helper()
	if at == len(told.Lives) {
		t.Fatalf("the end is not explained: %.500v", told.End)
	}
	x := told.Lives[at]
	ok, n := lin.Life(x.Tree, x)
	if ok || n == len(x.Events) {
		t.Fatal("life", at, "is not explained:", ok, n)
	}
	t.Fatalf("life %d: event %d of %d can't be: %+v", at, n, len(x.Events), x.Events[n])
}

// lives is one life, on a machine that has enough of everything.
func lives(t testing.TB, harts int, text string, steps int, input ...api.Typed) api.Lived {
	t.Helper()
	c := plain(harts)
	l := steady(c, steps)
	l.Input = input
	return watched(t, c, alone(t, text), l).Lives[0]
}

// calls is the events of calls of a number, or of all, that are points.
func calls(x api.Lived, number int) []api.Event {
	var l []api.Event
	for _, e := range x.Events {
		if e.Kind == api.EvCall && (number == 0 || e.Call == number) {
			l = append(l, e)
		}
	}
	return l
}

// results is what those were told.
func results(x api.Lived, number int) []int32 {
	var l []int32
	for _, e := range calls(x, number) {
		l = append(l, e.Result)
	}
	return l
}

// kinds is how many events of a kind there are.
func kinds(x api.Lived, kind int) int {
	n := 0
	for _, e := range x.Events {
		if e.Kind == kind {
			n++
		}
	}
	return n
}
