package kern_test

import (
	"fmt"
	"reflect"
	"slices"
	"strings"
	"testing"

	"parapet/api"
	"parapet/kern"
)

// busy is a program that changes what is on the disk in many ways, and syncs now and then.
const busy = `
	li r1, 19
	li r2, @/e
	sys
	li r1, 13
	li r2, @/e/a
	li r3, 1
	sys
	li r1, 16
	li r2, 2
	li r3, 4096
	li r4, 300
	sys
	li r1, 24
	sys
	li r1, 22
	li r2, @/e/a
	li r3, @/b
	sys
	li r1, 16
	li r2, 2
	li r3, 5120
	li r4, 1024
	sys
	li r1, 20
	li r2, @/a
	sys
	li r1, 24
	sys
	li r1, 20
	li r2, @/b
	sys
	li r1, 13
	li r2, @/c
	li r3, 3
	sys
	li r1, 16
	li r2, 3
	li r3, 4096
	li r4, 9
	sys
	li r1, 24
	sys
	li r1, 14
	li r2, 2
	sys
	li r1, 13
	li r2, @/c
	li r3, 2
	sys
	li r1, 20
	li r2, @/e
	sys
	li r1, 24
	sys
	li r1, 19
	li r2, @/e
	sys
	li r1, 1
	sys
`

func busyFiles(t *testing.T) []api.Placed {
	t.Helper()
	return planted(t, spelt(busy), api.Placed{Path: "/a", Bytes: strings.Repeat("a", 700)}, api.Placed{Path: "/d", Dir: true}, api.Placed{Path: "/d/a", Bytes: "da"})
}

// torn is which pending writes persist, in some ways.
func torn(way, n int) []api.Torn {
	var l []api.Torn
	d := newDice(way*1000 + n)
	for at := range 80 {
		switch {
		case way == 1:
			l = append(l, api.Torn{At: at, Bytes: api.SectorSize})
		case way > 1 && d.below(2) == 0:
			l = append(l, api.Torn{At: at, Bytes: d.of(1+d.below(api.SectorSize), api.SectorSize, 8, 10)})
		}
	}
	return l
}

// P27.5: wherever the power goes, in a life that is busy.
func TestPowerGoesAnywhere(t *testing.T) {
	c := plain(2)
	files := busyFiles(t)
	whole := watched(t, c, files, steady(c, 1200)).Lives[0]
	if l := results(whole, api.CallSync); !slices.Equal(l, []int32{0, 0, 0, 0}) || len(whole.Threads) != 0 {
		t.Fatal("syncs", l)
	}
	trees := map[string]int{}
	for way := range 5 {
		for stop := 0; ; stop++ {
			l := steady(c, 1200)
			l.Stop, l.Torn = stop, torn(way, stop)
			play := plays
			if stop%7 == way {
				play = watched
			}
			told := play(t, c, files, l, steady(c, 1200))
			x := told.Lives[0]
			trees[fmt.Sprint(told.Lives[1].Tree)]++
			if stop == 0 {
				if !reflect.DeepEqual(x, api.Lived{Boot: api.ErrKernel}) {
					t.Errorf("%+v", x)
				}
				continue
			}
			if len(x.Events) > len(whole.Events) || !reflect.DeepEqual(x.Events, whole.Events[:len(x.Events)]) {
				t.Fatal("otherwise than with power")
			}
			if x.Steps == whole.Steps {
				break
			}
		}
	}
	if len(trees) < 5 {
		t.Error(len(trees), "trees")
	}
}

// The power goes in boots, too, one behind the other, while the log recovers and files without a name are freed.
func TestPowerGoesInBoots(t *testing.T) {
	c := plain(1)
	files := busyFiles(t)
	in, behind := 0, 0
	for stop := 3; stop < 130; stop += 3 {
		first := steady(c, 1200)
		first.Stop, first.Torn = stop, torn(1+stop%4, stop)
		for boot := range 12 {
			second := api.Life{Steps: 30, Stop: boot, Torn: torn(1+boot%4, boot)}
			third := api.Life{Steps: 30, Stop: boot / 2, Torn: torn(1, boot)}
			told, e := kern.Watch(c, files, []api.Life{first, second, third, steady(c, 1200)})
			if e != nil {
				t.Fatal(stop, boot, e)
			}
			if boot%3 == 0 {
				plays(t, c, files, first, second, third, steady(c, 1200))
			}
			if told.Lives[3].Boot != api.OK {
				t.Fatal("the last boot", told.Lives[3].Boot)
			}
			for _, x := range told.Lives[1:3] {
				if x.Boot == api.ErrKernel {
					in++
				} else if x.Boot == api.OK {
					behind++
				}
			}
		}
	}
	if in < 100 || behind < 100 {
		t.Error(in, behind)
	}
}

// P3 of the whole: what was synced is there, whatever comes behind it.
func TestKept(t *testing.T) {
	c := plain(1)
	text := spelt("li r1, 19\nli r2, @/e\nsys\nli r1, 24\nsys\nli r1, 20\nli r2, @/e\nsys\nli r1, 19\nli r2, @/c\nsys\nli r1, 24\nsys\n" + spin)
	files := alone(t, text)
	with := func(path string) []api.Placed {
		return planted(t, text, api.Placed{Path: path, Dir: true})
	}
	free := steady(c, 200)
	whole := plays(t, c, files, free).Lives[0]
	synced := calls(whole, api.CallSync)
	for way := range 5 {
		for stop := 1; stop < 40; stop++ {
			l := free
			l.Stop, l.Torn = stop, torn(way, stop)
			told := plays(t, c, files, l)
			switch x := told.Lives[0]; {
			case x.Steps > synced[1].Step && !reflect.DeepEqual(told.End, with("/c")):
				t.Fatal(way, stop, "behind the second sync")
			case x.Steps > synced[0].Step && !reflect.DeepEqual(told.End, with("/e")) && !reflect.DeepEqual(told.End, with("/c")):
				t.Fatal(way, stop, "behind the first sync")
			}
		}
	}
}

// Torn says what persists: those are passed over that are out of order, of no write, or of no bytes.
func TestTorn(t *testing.T) {
	c := plain(1)
	files := alone(t, spelt("li r1, 19\nli r2, @/e\nsys\nli r1, 24\nsys\n"+spin))
	// The blocks of the group, a flush, the header: which is pending then.
	n := 0
	for stop := 1; ; stop++ {
		l := steady(c, 200)
		l.Stop, l.Torn = stop, []api.Torn{{At: 0, Bytes: api.SectorSize}}
		if told := plays(t, c, files, l); len(told.End) == 2 {
			n = stop
			break
		}
	}
	for _, x := range []struct {
		l    []api.Torn
		kept bool
	}{
		{nil, false},
		{[]api.Torn{{At: 0, Bytes: 512}}, true},
		{[]api.Torn{{At: 0, Bytes: 511}}, false},
		{[]api.Torn{{At: 0, Bytes: 513}}, false},
		{[]api.Torn{{At: 0, Bytes: 0}}, false},
		{[]api.Torn{{At: 1, Bytes: 512}}, false},
		{[]api.Torn{{At: -1, Bytes: 512}}, false},
		{[]api.Torn{{At: -1, Bytes: 512}, {At: 7, Bytes: 512}, {At: 0, Bytes: -1}, {At: 0, Bytes: 600}, {At: 0, Bytes: 512}}, true},
		{[]api.Torn{{At: 0, Bytes: 8}, {At: 0, Bytes: 512}}, false}, // torn: the two generations part
		{[]api.Torn{{At: 0, Bytes: 512}, {At: 0, Bytes: 8}}, true},
	} {
		l := steady(c, 200)
		l.Stop, l.Torn = n, x.l
		told := plays(t, c, files, l, api.Life{Steps: 9, Stop: -1})
		if kept := len(told.End) == 2; kept != x.kept {
			t.Errorf("%v: %v", x.l, told.End)
		}
	}
}

// A life ends with the step in which the power goes.
func TestPowerEndsALife(t *testing.T) {
	c := plain(1)
	files := alone(t, spelt("li r1, 19\nli r2, @/e\nsys\nli r1, 24\nsys\n"+spin))
	whole := plays(t, c, files, steady(c, 200)).Lives[0]
	synced := calls(whole, api.CallSync)[0].Step
	ops := 0
	for stop := 1; ; stop++ {
		l := steady(c, 200)
		l.Stop = stop
		x := plays(t, c, files, l).Lives[0]
		if x.Steps == 200 {
			break
		}
		if ops = stop; x.Steps > synced+1 {
			t.Error(stop, x.Steps)
		}
		// The last operation is done in the step in which sync is told.
		if told := len(calls(x, api.CallSync)) == 1; told != (x.Steps == synced+1) {
			t.Error(stop, x.Steps, told)
		}
	}
	// The superblock's neighbours: the inodes, the bitmap or not, a directory: twice, with two headers and four flushes.
	if ops < 10 || ops%2 != 0 {
		t.Error(ops, "operations")
	}
}

// Example 7 of the whole: behind a crash a file without a name is free.
func TestFreedInABoot(t *testing.T) {
	text := `
	li r1, 13
	li r2, @/a
	sys
	li r1, 20
	li r2, @/a
	sys
	li r1, 24
	sys
	li r1, 13
	li r2, @/b
	li r3, 1
	sys
` + spin
	c := plain(1)
	c.Layout.Inodes = 3
	files := planted(t, spelt(text), api.Placed{Path: "/a", Bytes: "a"})
	lived := watched(t, c, files, steady(c, 200), steady(c, 200)).Lives
	if one, two := results(lived[0], api.CallOpen), results(lived[1], api.CallOpen); !slices.Equal(one, []int32{2, -api.ENOSPC}) || !slices.Equal(two, []int32{-api.ENOENT, 2}) {
		t.Error(one, two)
	}
}

// A log that has no room: a commit is gone on with, and all goes on.
func TestLogWithoutRoom(t *testing.T) {
	text := `
	li r10, 12
more: li r1, 13
	li r2, @/b
	li r3, 3
	sys
	li r9, 0
	add r9, r1
	li r8, 16
again: li r1, 16
	li r2, 0
	add r2, r9
	li r3, 5120
	li r4, 1000
	sys
	addi r8, r8, -1
	bne r8, r0, again
	li r1, 14
	sys
	addi r10, r10, -1
	bne r10, r0, more
	li r1, 1
	sys
`
	c := plain(2)
	files := alone(t, spelt(text))
	whole := watched(t, c, files, steady(c, 9000)).Lives[0]
	if len(whole.Threads) != 0 || slices.ContainsFunc(results(whole, api.CallWrite), func(r int32) bool { return r != 1000 }) {
		t.Errorf("%+v", whole.Threads)
	}
	for stop := 5; stop < 600; stop += 37 {
		l := steady(c, 9000)
		l.Stop, l.Torn = stop, torn(stop%4, stop)
		plays(t, c, files, l, steady(c, 100))
	}
}
