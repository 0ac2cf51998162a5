package kern_test

import (
	"reflect"
	"slices"
	"strings"
	"testing"

	"parapet/api"
	"parapet/kern"
)

// P27.2

// Example 1 of the chapter.
func TestExits(t *testing.T) {
	c := plain(1)
	files := alone(t, ending)
	x := watched(t, c, files, api.Life{Steps: 100, Stop: -1}).Lives[0]
	want := []api.Event{{Kind: api.EvInsn, Step: 1, Who: 1}, {Kind: api.EvInsn, Step: 2, Who: 1}, {Kind: api.EvCall, Step: 4, Who: 1, Call: api.CallExit}}
	if x.Heap < 1 || x.Heap > 1024 {
		t.Error("heap", x.Heap)
	}
	if x.Heap = 0; !reflect.DeepEqual(x, api.Lived{Tree: files, Events: want, Steps: 5}) {
		t.Errorf("%+v", x)
	}
}

// A life that is cut off, at each step.
func TestSteps(t *testing.T) {
	c := plain(1)
	for steps, want := range []api.Running{
		{Tid: 1, Pid: 1, State: api.ThreadUser},
		{Tid: 1, Pid: 1, State: api.ThreadUser},
		{Tid: 1, Pid: 1, State: api.ThreadUser, Cpu: api.Cpu{R: [16]uint32{1: 1}, PC: 4}},
		{Tid: 1, Pid: 1, State: api.ThreadCall, Cpu: api.Cpu{R: [16]uint32{1: 1}, PC: 8}},
		{Tid: 1, Pid: 1, State: api.ThreadCall, Cpu: api.Cpu{R: [16]uint32{1: 1}, PC: 8}},
	} {
		x := plays(t, c, alone(t, ending), api.Life{Steps: steps, Stop: -1}).Lives[0]
		if x.Steps != steps || len(x.Events) != max(0, min(steps-1, 2)) {
			t.Error(steps, x.Steps, x.Events)
		}
		if !slices.Equal(x.Threads, []api.Running{want}) || !slices.Equal(x.Procs, []api.Process{{Pid: 1}}) {
			t.Errorf("%d: %+v %+v", steps, x.Threads, x.Procs)
		}
	}
}

func TestOutput(t *testing.T) {
	x := lives(t, 1, "li r1, 16\nli r2, 1\nli r3, text\nli r4, 6\nsys\nli r1, 1\nsys\ntext: .text \"hello\\n\"\n", 99)
	if x.Output != "hello\n" || len(x.Procs) != 0 || len(x.Threads) != 0 {
		t.Errorf("%+v", x)
	}
}

func TestFitsOnTheDisk(t *testing.T) {
	c := plain(1)
	c.Layout = api.Layout{Sectors: 100, Log: 32, Inodes: 8}
	full := planted(t, ending, api.Placed{Path: "/a", Bytes: strings.Repeat("a", api.MaxFileSize)})
	told := plays(t, c, full)
	if len(told.Lives) != 0 {
		t.Error("lives", told.Lives)
	}
	for _, files := range [][]api.Placed{
		append(full, api.Placed{Path: "/b", Bytes: strings.Repeat("b", api.MaxFileSize)}),
		append(full, api.Placed{Path: "/b"}, api.Placed{Path: "/c"}, api.Placed{Path: "/d", Dir: true}, api.Placed{Path: "/e"}, api.Placed{Path: "/f"}, api.Placed{Path: "/g"}),
	} {
		if e := kern.Check(c, files, nil); e != api.OK {
			t.Error("Check", e)
		}
		if told := kern.Play(c, files, make([]api.Life, 2)); !reflect.DeepEqual(told, api.Told{Err: api.ErrSpace}) {
			t.Errorf("%+v", told)
		}
	}
}

// As many files as may be, on the greatest disk.
func TestManyFiles(t *testing.T) {
	c := plain(1)
	c.Layout = api.Layout{Sectors: api.MaxSectors, Log: 32, Inodes: api.MaxInodes}
	files := []api.Placed{{Path: "/d", Dir: true}}
	for i := range api.MaxPlaced - 3 {
		files = append(files, api.Placed{Path: "/d/" + string(rune('a'+i/26/26)) + string(rune('a'+i/26%26)) + string(rune('a'+i%26)), Bytes: strings.Repeat("x", 5*i)})
	}
	files = append(files, alone(t, ending)...)
	told := plays(t, c, files, api.Life{Steps: 9, Stop: -1})
	if !reflect.DeepEqual(told.End, files) || !reflect.DeepEqual(told.Lives[0].Tree, files) {
		t.Error("another tree")
	}
}

// A tree is told in the order in which one walks, not in that of the paths' bytes.
func TestOrderOfATree(t *testing.T) {
	files := []api.Placed{{Path: "/d", Dir: true}, {Path: "/d/a"}, {Path: "/d/a.b"}, {Path: "/d!", Bytes: "!"}, {Path: "/d.e", Dir: true}, {Path: "/d.e/a"}, alone(t, ending)[0]}
	told := plays(t, plain(1), files, api.Life{Stop: -1})
	if !reflect.DeepEqual(told.End, files) || !reflect.DeepEqual(told.Lives[0].Tree, files) {
		t.Error(told.End)
	}
}

func TestPowerInABoot(t *testing.T) {
	files := alone(t, ending)
	told := plays(t, plain(1), files, api.Life{Steps: 9, Stop: 0}, api.Life{Steps: 9, Stop: 1})
	if !reflect.DeepEqual(told.Lives[0], api.Lived{Boot: api.ErrKernel}) {
		t.Errorf("without power: %+v", told.Lives[0])
	}
	if x := told.Lives[1]; x.Boot != api.OK || !reflect.DeepEqual(x.Tree, files) || x.Steps != 5 {
		t.Errorf("a boot that writes nothing: %+v", x)
	}
}

// unmade is what becomes of a life behind one in which a program ran, and of its end.
func unmade(t *testing.T, text string, boot api.Errno, more ...api.Placed) {
	t.Helper()
	c := plain(1)
	files := planted(t, text, more...)
	told := watched(t, c, files, steady(c, 2000), steady(c, 50), steady(c, 50))
	if x := told.Lives[0]; x.Boot != api.OK || len(x.Threads) > 0 {
		t.Fatalf("the first life: %v %+v", x.Boot, x.Threads)
	}
	for _, x := range told.Lives[1:] {
		if !reflect.DeepEqual(x, api.Lived{Boot: boot, Tree: told.End}) || len(x.Tree) == 0 {
			t.Errorf("%+v", x)
		}
	}
}

const syncAndExit = "li r1, 24\nsys\nli r1, 1\nsys\n"

func TestTreesThatMayNotBe(t *testing.T) {
	keep := api.Placed{Path: "/a"}
	unmade(t, "li r1, 20\nli r2, path\nsys\n"+syncAndExit+"path: .text \"/init\\0\"", api.ErrImage, keep)
	unmade(t, "li r1, 13\nli r2, path\nli r3, 2\nsys\n"+syncAndExit+"path: .text \"/init\\0\"", api.ErrImage, keep)
	// What is moved below has a path that is too long then.
	unmade(t, "li r1, 22\nli r2, from\nli r3, to\nsys\n"+syncAndExit+"from: .text \"/e\\0\"\nto: .text \"/abcdefghijklmn/abcdefghijklmn/abcdefghijklmn/abcdefghijk\\0\"", api.ErrArg,
		api.Placed{Path: "/abcdefghijklmn", Dir: true}, api.Placed{Path: "/abcdefghijklmn/abcdefghijklmn", Dir: true}, api.Placed{Path: "/abcdefghijklmn/abcdefghijklmn/abcdefghijklmn", Dir: true},
		api.Placed{Path: "/e", Dir: true}, api.Placed{Path: "/e/abcdefghijklm"})
}

func TestTooFewFrames(t *testing.T) {
	c := plain(1)
	c.Frames = 16
	// A root, and a leaf, and a frame for each page that has bytes; pages of zeros want none.
	with := func(pages int) []api.Placed {
		b := assembled(t, ending)
		return []api.Placed{{Path: "/init", Bytes: imaged(t, api.Image{
			Segments: []api.Segment{{Bytes: b}, {Addr: 256, Bytes: slices.Repeat([]byte{7}, 256*(pages-1))}},
			Zero:     []api.Region{{First: 20, Count: 40}},
		})}}
	}
	if x := watched(t, c, with(14), steady(c, 9)).Lives[0]; x.Boot != api.OK || x.Steps != 5 {
		t.Errorf("%+v", x)
	}
	told := plays(t, c, with(15), steady(c, 9), steady(c, 9))
	for _, x := range told.Lives {
		if !reflect.DeepEqual(x, api.Lived{Boot: api.ErrFull, Tree: with(15)}) {
			t.Errorf("%+v", x)
		}
	}
}

// What was not synced is gone when a life ends, whatever ends it; what was is there.
func TestLivesFollowOneAnother(t *testing.T) {
	c := plain(2)
	make := "li r1, 19\nli r2, %s\nsys\n"
	text := strings.Replace(make, "%s", "a", 1) + "li r1, 24\nsys\n" + strings.Replace(make, "%s", "b", 1) + "%e" + "a: .text \"/a\\0\"\nb: .text \"/b\\0\"\n"
	for _, end := range []string{"li r1, 1\nsys\n", "here: jal r5, here\n"} {
		files := alone(t, strings.Replace(text, "%e", end, 1))
		told := watched(t, c, files, steady(c, 300), steady(c, 300))
		want := append([]api.Placed{{Path: "/a", Dir: true}}, files...)
		if !reflect.DeepEqual(told.Lives[1].Tree, want) || !reflect.DeepEqual(told.End, want) {
			t.Error(told.Lives[1].Tree, told.End)
		}
		if l := results(told.Lives[0], api.CallMkdir); !slices.Equal(l, []int32{0, 0}) {
			t.Error("the first life", l)
		}
		if l := results(told.Lives[1], api.CallMkdir); !slices.Equal(l, []int32{-api.EEXIST, 0}) {
			t.Error("the second life", l)
		}
	}
}
