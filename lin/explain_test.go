package lin_test

import (
	"slices"
	"testing"

	"parapet/api"
	"parapet/kern"
	"parapet/lin"
)

// holds holds whether a play is explained, or which life isn't.
func holds(t *testing.T, files []api.Placed, lives int, told api.Told, want bool, at int) {
	t.Helper()
	if ok, n := lin.Explain(files, make([]api.Life, lives), told); ok != want || n != at {
		t.Errorf("Explain: %v %d, not %v %d", ok, n, want, at)
	}
}

// P28.2

func TestExplain(t *testing.T) {
	files := does(t, makeA, sync, makeB)
	a, ab := with(files, api.Placed{Path: "/a", Dir: true}), with(files, api.Placed{Path: "/a", Dir: true}, api.Placed{Path: "/b", Dir: true})
	one := recorded(t, files, 0, 0, 0)
	from := func(tree []api.Placed) api.Lived { return recorded(t, tree, -api.EEXIST) }
	holds(t, files, 0, api.Told{End: files}, true, 0)
	holds(t, files, 0, api.Told{End: a}, false, 0)
	holds(t, files, 0, api.Told{}, false, 0)
	for _, end := range [][]api.Placed{a, ab} {
		holds(t, files, 1, api.Told{Lives: []api.Lived{one}, End: end}, true, 0)
		holds(t, files, 2, api.Told{Lives: []api.Lived{one, from(end)}, End: end}, true, 0)
		holds(t, files, 2, api.Told{Lives: []api.Lived{one, from(end)}, End: files}, false, 2)
	}
	holds(t, files, 1, api.Told{Lives: []api.Lived{one}, End: files}, false, 1)
	holds(t, files, 1, api.Told{Lives: []api.Lived{one}}, false, 1)
	// The second life has found one of two: the other one can't be found behind it.
	holds(t, files, 2, api.Told{Lives: []api.Lived{one, from(a)}, End: ab}, false, 2)
	holds(t, files, 2, api.Told{Lives: []api.Lived{one, recorded(t, files)}, End: files}, false, 1)
	holds(t, files, 2, api.Told{Lives: []api.Lived{from(a), one}, End: a}, false, 0)
	// A life that is not explained.
	turned := one
	turned.Output = "x"
	holds(t, files, 2, api.Told{Lives: []api.Lived{turned, from(a)}, End: a}, false, 0)
	x := from(a)
	x.Output = "x"
	holds(t, files, 2, api.Told{Lives: []api.Lived{one, x}, End: a}, false, 1)
	// As many lives as there were.
	holds(t, files, 0, api.Told{Lives: []api.Lived{one}, End: a}, false, 0)
	holds(t, files, 2, api.Told{Lives: []api.Lived{one}, End: a}, false, 0)
}

// Lives whose boot went wrong leave what may be found as it is.
func TestExplainBoots(t *testing.T) {
	files := does(t, makeA, sync, makeB)
	a, ab := with(files, api.Placed{Path: "/a", Dir: true}), with(files, api.Placed{Path: "/a", Dir: true}, api.Placed{Path: "/b", Dir: true})
	one := recorded(t, files, 0, 0, 0)
	wrong := api.Lived{Boot: api.ErrKernel}
	full := api.Lived{Boot: api.ErrFull, Tree: files}
	for _, end := range [][]api.Placed{a, ab} {
		holds(t, files, 3, api.Told{Lives: []api.Lived{one, wrong, full}, End: end}, true, 0)
		holds(t, files, 4, api.Told{Lives: []api.Lived{wrong, one, wrong, recorded(t, end)}, End: end}, true, 0)
	}
	holds(t, files, 2, api.Told{Lives: []api.Lived{wrong, full}, End: files}, true, 0)
	holds(t, files, 2, api.Told{Lives: []api.Lived{wrong, full}, End: a}, false, 2)
	holds(t, files, 3, api.Told{Lives: []api.Lived{one, wrong, recorded(t, files)}, End: files}, false, 2)
}

func TestExplainFiles(t *testing.T) {
	files := does(t, makeA)
	told := api.Told{Lives: []api.Lived{recorded(t, files)}, End: files}
	holds(t, files, 1, told, true, 0)
	holds(t, nil, 1, told, false, 0)
	holds(t, nil, 0, api.Told{}, false, 0)
	holds(t, []api.Placed{{Path: "/init", Bytes: "no"}}, 0, api.Told{End: []api.Placed{{Path: "/init", Bytes: "no"}}}, false, 0)
	// Trees that are alike, if one does not look where a part ends.
	one, two := with(files, api.Placed{Path: "/a", Bytes: "x /b file y"}), with(files, api.Placed{Path: "/a", Bytes: "x"}, api.Placed{Path: "/b", Bytes: "y"})
	three, four := with(files, api.Placed{Path: "/a", Bytes: "x4 filex"}), with(files, api.Placed{Path: "/a4", Bytes: "file"})
	for _, x := range [][]api.Placed{one, two, three, four} {
		for _, y := range [][]api.Placed{one, two, three, four} {
			same := lin.Same(x, y)
			holds(t, x, 0, api.Told{End: y}, same, 0)
		}
	}
	// They must stand in the order in which one walks.
	other := []api.Placed{{Path: "/z"}, files[0]}
	holds(t, other, 0, api.Told{End: other}, false, 0)
	slices.Reverse(other)
	holds(t, other, 0, api.Told{End: other}, true, 0)
}

// doing is a program that says something, forks, pipes, sleeps, and changes the disk.
const doing = `
	li r1, 18
	li r2, 5120
	sys
	li r1, 2
	sys
	beq r1, r0, child
	li r1, 15
	li r2, 2
	li r3, 5376
	li r4, 3
	sys
	li r4, 0
	add r4, r1
	li r1, 16
	li r2, 1
	sys
	li r1, 19
	li r2, path
	sys
	li r1, 24
	sys
	li r1, 3
	li r2, 5376
	sys
	li r1, 13
	li r2, other
	li r3, 1
	sys
	li r1, 16
	li r2, 4
	li r3, path
	li r4, 2
	sys
stay: li r1, 5
	sys
	add r9, r1
	jal r5, stay
child: li r1, 16
	li r2, 3
	li r3, path
	li r4, 3
	sys
	li r1, 1
	li r2, 7
	sys
path: .text "/a\0"
other: .text "/b\0"
`

// P28.3

func TestExplainsWhatAKernelTold(t *testing.T) {
	files := planted(t, doing)
	ends := map[int]int{}
	for harts := 1; harts <= 3; harts++ {
		for stop := -1; stop < 30; stop++ {
			c := api.Config{Harts: harts, Frames: 128, Tlb: 4, Heap: 1 << 16, Layout: api.Layout{Sectors: 128, Log: 32, Inodes: 16}}
			l := []api.Life{{Steps: 400, Stop: stop, Torn: []api.Torn{{At: 0, Bytes: 512}, {At: 1, Bytes: 77}}}, {Steps: 300, Stop: stop / 2}, {Steps: 20, Stop: -1}}
			for i := range 400 {
				l[0].Picks = append(l[0].Picks, i%harts)
			}
			told := kern.Play(c, files, l)
			if ok, at := lin.Explain(files, l, told); !ok {
				t.Error(harts, stop, "life", at)
			}
			ends[len(told.End)]++
		}
	}
	if len(ends) < 2 {
		t.Error("the same ends", ends)
	}
}

// P28.4

func TestTurnedRecords(t *testing.T) {
	files := planted(t, doing)
	c := api.Config{Harts: 2, Frames: 128, Tlb: 4, Heap: 1 << 16, Layout: api.Layout{Sectors: 128, Log: 32, Inodes: 16}}
	play := func() ([]api.Life, api.Told) {
		l := []api.Life{{Steps: 400, Stop: -1}, {Steps: 200, Stop: -1}}
		return l, kern.Play(c, files, l)
	}
	l, told := play()
	if ok, at := lin.Explain(files, l, told); !ok || told.Lives[0].Output != "/a\x00" || len(told.End) != 2 {
		t.Fatal(ok, at, told.Lives[0].Output, told.End)
	}
	results := 0
	for life := range told.Lives {
		for i, e := range told.Lives[life].Events {
			if e.Kind != api.EvCall {
				continue
			}
			for _, result := range []int32{e.Result + 1, e.Result - 1, e.Result ^ 64, -e.Result - 1, -api.EINVAL} {
				l, told := play()
				told.Lives[life].Events[i].Result = result
				if ok, at := lin.Explain(files, l, told); ok || at != life {
					t.Errorf("life %d: %+v told as %d: %v %d", life, e, result, ok, at)
				}
			}
			results++
		}
		for i := range told.Lives[life].Output {
			l, told := play()
			b := []byte(told.Lives[life].Output)
			b[i] ^= 1
			told.Lives[life].Output = string(b)
			if ok, at := lin.Explain(files, l, told); ok || at != life {
				t.Errorf("life %d: byte %d of the output: %v %d", life, i, ok, at)
			}
		}
	}
	if results < 20 {
		t.Error(results, "results")
	}
	for i, x := range told.End {
		for at := range x.Bytes {
			b := []byte(x.Bytes)
			b[at] ^= 128
			l, told := play()
			told.End[i].Bytes = string(b)
			if ok, n := lin.Explain(files, l, told); ok || n != 2 {
				t.Errorf("byte %d of %s: %v %d", at, x.Path, ok, n)
			}
		}
		for at := range x.Path {
			b := []byte(x.Path)
			b[at] ^= 1
			l, told := play()
			told.End[i].Path = string(b)
			if ok, n := lin.Explain(files, l, told); ok || n != 2 {
				t.Errorf("byte %d of the path %s: %v %d", at, x.Path, ok, n)
			}
		}
		l, told := play()
		told.End[i].Dir = !told.End[i].Dir
		if ok, n := lin.Explain(files, l, told); ok || n != 2 {
			t.Errorf("%s: %v %d", x.Path, ok, n)
		}
	}
}

// What is handed in is not changed.
func TestKeepsItsArguments(t *testing.T) {
	files := planted(t, doing)
	l := []api.Life{{Steps: 100, Stop: -1}}
	c := api.Config{Harts: 1, Frames: 128, Tlb: 4, Heap: 1 << 16, Layout: api.Layout{Sectors: 128, Log: 32, Inodes: 16}}
	told := kern.Play(c, files, l)
	was := slices.Clone(told.Lives[0].Events)
	trees, end := slices.Clone(files), slices.Clone(told.End)
	for range 3 {
		if ok, _ := lin.Explain(files, l, told); !ok {
			t.Error("not explained")
		}
	}
	if !slices.Equal(was, told.Lives[0].Events) || !slices.Equal(trees, files) || !slices.Equal(told.End, end) {
		t.Error("something has changed")
	}
}
