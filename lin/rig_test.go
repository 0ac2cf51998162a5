package lin_test

import (
	"slices"
	"strings"
	"testing"

	"parapet/api"
	"parapet/asm"
	"parapet/image"
	"parapet/lin"
	"parapet/pm"
)

// programmed is the image of a text.
func programmed(t testing.TB, text string) string {
	t.Helper()
	code, e, line := asm.Assemble(text, 0)
	if e != api.OK {
		t.Fatal("Assemble", e, line, text)
	}
	b, e := image.Make(api.Image{Segments: []api.Segment{{Bytes: code}}, Zero: []api.Region{{First: 20, Count: 4}}})
	if e != api.OK {
		t.Fatal("image.Make", e)
	}
	return string(b)
}

// planted is an /init, and other files, in the order in which one walks.
func planted(t testing.TB, text string, more ...api.Placed) []api.Placed {
	t.Helper()
	l := append(more, api.Placed{Path: "/init", Bytes: programmed(t, text)})
	slices.SortFunc(l, func(a, b api.Placed) int {
		return slices.Compare(strings.Split(a.Path, "/"), strings.Split(b.Path, "/"))
	})
	return l
}

const (
	ending = "li r1, 1\nsys\n"

	// changing makes /a, and then does what is said with /a and /b.
	changing = "%s" + ending + "a: .text \"/a\\0\"\nb: .text \"/b\\0\"\n"

	makeA   = "li r1, 19\nli r2, a\nsys\n"
	makeB   = "li r1, 19\nli r2, b\nsys\n"
	unmakeA = "li r1, 20\nli r2, a\nsys\n"
	aToB    = "li r1, 22\nli r2, a\nli r3, b\nsys\n"
	linkB   = "li r1, 21\nli r2, a\nli r3, b\nsys\n"
	openA   = "li r1, 13\nli r2, a\nli r3, 3\nsys\n"
	writeIt = "li r1, 16\nli r2, 2\nli r3, a\nli r4, 2\nsys\n"
	sync    = "li r1, 24\nsys\n"
	say     = "li r1, 16\nli r2, 1\nli r3, a\nli r4, 2\nsys\n"
)

// recorder is a life as the model has it, an event a step.
type recorder struct {
	testing.TB
	w *pm.World
	l api.Lived
}

func newRecorder(t testing.TB, tree []api.Placed) *recorder {
	t.Helper()
	w, e := pm.New(tree)
	if e != api.OK {
		t.Fatal("pm.New", e)
	}
	return &recorder{TB: t, w: w, l: api.Lived{Tree: tree}}
}

func (r *recorder) does(e api.Event) {
	r.Helper()
	e.Step = r.l.Steps
	if got := r.w.Do(e); got != api.OK {
		r.Fatalf("%+v: %v", e, got)
	}
	r.l.Events = append(r.l.Events, e)
	r.l.Steps++
}

// goes lets the first thread go on up to some calls, each of which is told something.
func (r *recorder) goes(results ...int32) {
	r.Helper()
	for _, result := range results {
		for {
			if number, _, ok := r.w.Asks(1); ok {
				r.does(api.Event{Kind: api.EvCall, Who: 1, Call: number, Result: result})
				break
			}
			r.does(api.Event{Kind: api.EvInsn, Who: 1})
		}
	}
}

// lived is the life.
func (r *recorder) lived() api.Lived {
	x := r.l
	x.Events = slices.Clone(x.Events)
	x.Output, x.Procs, x.Threads = r.w.Output(), r.w.Procs(), r.w.Threads()
	return x
}

// recorded is a life in which a program makes calls.
func recorded(t testing.TB, tree []api.Placed, results ...int32) api.Lived {
	t.Helper()
	r := newRecorder(t, tree)
	r.goes(results...)
	return r.lived()
}

// does is a program that does such things, and its files.
func does(t testing.TB, what ...string) []api.Placed {
	t.Helper()
	return planted(t, strings.Replace(changing, "%s", strings.Join(what, ""), 1))
}

// with is a tree with more in it.
func with(tree []api.Placed, more ...api.Placed) []api.Placed {
	l := slices.Concat(more, tree)
	slices.SortFunc(l, func(a, b api.Placed) int { return strings.Compare(a.Path, b.Path) })
	return l
}

// explains holds whether a life is explained, or which event isn't.
func explains(t testing.TB, tree []api.Placed, l api.Lived, want bool, at int) {
	t.Helper()
	if ok, n := lin.Life(tree, l); ok != want || n != at {
		t.Errorf("Life: %v %d, not %v %d", ok, n, want, at)
	}
	if found := lin.Found(tree, l); l.Boot == api.OK && (len(found) > 0) != want {
		t.Errorf("Found: %d trees", len(found))
	}
}
