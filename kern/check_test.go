package kern_test

import (
	"math"
	"reflect"
	"strings"
	"testing"

	"parapet/api"
	"parapet/kern"
)

// ending is an init that exits at once.
const ending = "li r1, 1\nsys\n"

// P27.1

func TestCheckMachines(t *testing.T) {
	files := alone(t, ending)
	for _, x := range []struct {
		may  []int
		not  []int
		with func(*api.Config, int)
	}{
		{[]int{1, 8}, []int{0, 9, -1, math.MaxInt}, func(c *api.Config, n int) { c.Harts = n }},
		{[]int{16, 4096}, []int{15, 4097, 0, -1}, func(c *api.Config, n int) { c.Frames = n }},
		{[]int{1, 64}, []int{0, 65, -1}, func(c *api.Config, n int) { c.Tlb = n }},
		{[]int{1024, 1 << 30}, []int{1023, 1<<30 + 1, 0, -1}, func(c *api.Config, n int) { c.Heap = n }},
		{[]int{32, 248}, []int{31, 249, 4, 0, -1}, func(c *api.Config, n int) { c.Layout.Log = n }},
		{[]int{256, 4096}, []int{15, 4097, 36, -1}, func(c *api.Config, n int) { c.Layout.Sectors = n }},
		{[]int{2, 512}, []int{1, 513, -1}, func(c *api.Config, n int) { c.Layout.Inodes = n }},
	} {
		for _, n := range x.may {
			c := plain(2)
			x.with(&c, n)
			if e := kern.Check(c, files, nil); e != api.OK {
				t.Errorf("%+v: %v", c, e)
			}
			if told := kern.Play(c, files, nil); told.Err != api.OK {
				t.Errorf("Play of %+v: %v", c, told.Err)
			}
		}
		for _, n := range x.not {
			c := plain(2)
			x.with(&c, n)
			refused(t, c, files, nil)
		}
	}
	refused(t, api.Config{}, files, nil)
}

// refused holds that a play may not be, and that nothing is told of it.
func refused(t *testing.T, c api.Config, files []api.Placed, l []api.Life) {
	t.Helper()
	if e := kern.Check(c, files, l); e != api.ErrKernel {
		t.Errorf("Check of %+v: %v", c, e)
	}
	if told := kern.Play(c, files, l); !reflect.DeepEqual(told, api.Told{Err: api.ErrKernel}) {
		t.Errorf("Play of %+v: %+v", c, told)
	}
}

func TestCheckFiles(t *testing.T) {
	init := alone(t, ending)[0]
	for _, l := range [][]api.Placed{
		nil,
		{{Path: "/a"}},
		{{Path: "/init", Bytes: "no image"}},
		{{Path: "/init", Dir: true}},
		{init, init},
		{init, {Path: "a"}},
		{init, {Path: "/d/a"}},
		{init, {Path: "/d/a"}, {Path: "/d", Dir: true}},
		{init, {Path: "/a", Bytes: strings.Repeat("a", api.MaxFileSize+1)}},
		{init, {Path: "/d", Dir: true, Bytes: "a"}},
	} {
		refused(t, plain(1), l, nil)
	}
	// The order in which one walks is not asked for.
	told := kern.Play(plain(1), []api.Placed{init, {Path: "/z"}, {Path: "/d", Dir: true}, {Path: "/d/b", Bytes: "b"}, {Path: "/d/a", Bytes: "a"}}, nil)
	want := []api.Placed{{Path: "/d", Dir: true}, {Path: "/d/a", Bytes: "a"}, {Path: "/d/b", Bytes: "b"}, init, {Path: "/z"}}
	if told.Err != api.OK || !reflect.DeepEqual(told.End, want) {
		t.Error(told)
	}
}

func TestCheckLives(t *testing.T) {
	files := alone(t, ending)
	long := strings.Repeat("k", 1<<15)
	may := []api.Life{
		{},
		{Steps: api.MaxSteps},
		{Picks: []int{0, 1, 2, math.MaxInt}, Steps: 3},
		{Ticks: []api.Tick{{Step: 0, Hart: 0}, {Step: math.MaxInt, Hart: 1}}},
		{Input: []api.Typed{{Step: 0, Bytes: long}, {Step: math.MaxInt, Bytes: long}, {End: true}}},
		{Stop: math.MinInt, Torn: []api.Torn{{At: -1, Bytes: -1}, {At: math.MaxInt, Bytes: math.MaxInt}}},
		{Stop: math.MaxInt},
	}
	for _, l := range may {
		if e := kern.Check(plain(2), files, []api.Life{l}); e != api.OK {
			t.Errorf("%+v: %v", l, e)
		}
	}
	if told := kern.Play(plain(2), files, may); told.Err != api.OK || len(told.Lives) != len(may) {
		t.Error("Play", told.Err)
	}
	if e := kern.Check(plain(2), files, make([]api.Life, api.MaxLives)); e != api.OK {
		t.Error("eight lives", e)
	}
	refused(t, plain(2), files, make([]api.Life, api.MaxLives+1))
	for _, l := range []api.Life{
		{Steps: -1},
		{Steps: api.MaxSteps + 1},
		{Picks: []int{0, -1}},
		{Ticks: []api.Tick{{Step: -1}}},
		{Ticks: []api.Tick{{Hart: 2}}},
		{Ticks: []api.Tick{{Hart: -1}}},
		{Input: []api.Typed{{Step: -1, Bytes: "a"}}},
		{Input: []api.Typed{{Step: 0, Bytes: long}, {Step: 1, Bytes: long}, {Step: 2, Bytes: "a"}}},
	} {
		refused(t, plain(2), files, []api.Life{{}, l})
		refused(t, plain(2), files, []api.Life{l, {}})
	}
}

// P27.2: what is handed in stays as it is, and shares nothing with what is told.
func TestPlayKeepsItsArguments(t *testing.T) {
	c := plain(2)
	play := func() ([]api.Placed, []api.Life) {
		l := steady(c, 50)
		l.Ticks = []api.Tick{{Step: 3, Hart: 1}, {Step: 1, Hart: 0}}
		l.Input = []api.Typed{{Step: 9, Bytes: "a"}, {Step: 2, Bytes: "b", End: true}}
		l.Torn = []api.Torn{{At: 4, Bytes: 9}, {At: 2, Bytes: 8}}
		return append(alone(t, ending), api.Placed{Path: "/a", Bytes: "a"}), []api.Life{l, {Steps: 9, Stop: -1}}
	}
	files, l := play()
	told := kern.Play(c, files, l)
	if again, lives := play(); !reflect.DeepEqual(files, again) || !reflect.DeepEqual(l, lives) {
		t.Error("an argument has changed")
	}
	want := kern.Play(c, files, l)
	clear(told.End)
	clear(told.Lives[0].Tree)
	clear(files)
	if reflect.DeepEqual(told, want) || len(want.Lives[1].Tree) == 0 || want.Lives[1].Tree[0].Path != "/a" || told.Lives[1].Tree[0].Path != "/a" {
		t.Error("lists share their memory")
	}
}
