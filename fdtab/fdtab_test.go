package fdtab_test

import (
	"math"
	"slices"
	"testing"

	"parapet/api"
	"parapet/fdtab"
)

// opens holds the number of an open file that comes.
func opens(t *testing.T, f *fdtab.Files, kind, what, flags, want int) {
	t.Helper()
	if id, e := f.Open(kind, what, flags); id != want || e != api.OK {
		t.Fatalf("Open(%d, %d, %d): %d %v, not %d", kind, what, flags, id, e, want)
	}
}

func openRefuses(t *testing.T, f *fdtab.Files, kind, what, flags int, want api.Errno) {
	t.Helper()
	if id, e := f.Open(kind, what, flags); id != 0 || e != want {
		t.Errorf("Open(%d, %d, %d): %d %v, not %v", kind, what, flags, id, e, want)
	}
}

// is holds how an open file stands.
func is(t *testing.T, f *fdtab.Files, id int, want api.File) {
	t.Helper()
	if file, e := f.Get(id); file != want || e != api.OK {
		t.Errorf("Get(%d): %v %v, not %v", id, file, e, want)
	}
}

// isNone holds that whatever asks for an open file finds none such, and changes nothing.
func isNone(t *testing.T, f *fdtab.Files, ids ...int) {
	t.Helper()
	for _, id := range ids {
		if file, e := f.Get(id); file != (api.File{}) || e != api.ErrFile {
			t.Errorf("Get(%d): %v %v", id, file, e)
		}
		if e := f.Move(id, 1); e != api.ErrFile {
			t.Errorf("Move(%d, 1): %v", id, e)
		}
		if e := f.Move(id, -1); e != api.ErrFile {
			t.Errorf("Move(%d, -1): %v", id, e)
		}
		drops(t, f, id, api.File{}, false, api.ErrFile)
	}
}

func moves(t *testing.T, f *fdtab.Files, id, at int, want api.Errno) {
	t.Helper()
	if e := f.Move(id, at); e != want {
		t.Errorf("Move(%d, %d): %v, not %v", id, at, e, want)
	}
}

func drops(t *testing.T, f *fdtab.Files, id int, want api.File, closed bool, e api.Errno) {
	t.Helper()
	if file, over, g := f.Drop(id); file != want || over != closed || g != e {
		t.Errorf("Drop(%d): %v %v %v, not %v %v %v", id, file, over, g, want, closed, e)
	}
}

// all holds which numbers open files have.
func all(t *testing.T, f *fdtab.Files, want ...int) {
	t.Helper()
	if l := f.All(); !slices.Equal(l, want) {
		t.Errorf("All: %v, not %v", l, want)
	}
}

func on(t *testing.T, f *fdtab.Files, kind, what, want int) {
	t.Helper()
	if n := f.On(kind, what); n != want {
		t.Errorf("On(%d, %d): %d, not %d", kind, what, n, want)
	}
}

// P22.1

func TestNew(t *testing.T) {
	f := fdtab.New()
	all(t, f)
	isNone(t, f, 0, 1, -1, 63, 64, math.MinInt, math.MaxInt)
	for kind := range 6 {
		on(t, f, kind, 0, 0)
	}
	other := fdtab.New()
	opens(t, f, api.FileInode, 1, 0, 0)
	all(t, other)
}

func TestOpen(t *testing.T) {
	f := fdtab.New()
	opens(t, f, api.FileInode, 7, 3, 0)
	opens(t, f, api.FileRead, 7, 0, 1)
	opens(t, f, api.FileWrite, -7, -3, 2)
	opens(t, f, api.FileConsole, math.MaxInt, math.MinInt, 3)
	opens(t, f, api.FileInode, 7, 3, 4)
	all(t, f, 0, 1, 2, 3, 4)
	is(t, f, 0, api.File{Kind: api.FileInode, What: 7, Flags: 3, Refs: 1})
	is(t, f, 1, api.File{Kind: api.FileRead, What: 7, Refs: 1})
	is(t, f, 2, api.File{Kind: api.FileWrite, What: -7, Flags: -3, Refs: 1})
	is(t, f, 3, api.File{Kind: api.FileConsole, What: math.MaxInt, Flags: math.MinInt, Refs: 1})
	is(t, f, 4, api.File{Kind: api.FileInode, What: 7, Flags: 3, Refs: 1})
	isNone(t, f, 5, -1)
}

func TestOpenRefuses(t *testing.T) {
	f := fdtab.New()
	for _, kind := range []int{math.MinInt, -1, 0, 5, 6, math.MaxInt} {
		openRefuses(t, f, kind, 1, 0, api.ErrArg)
	}
	all(t, f)
	opens(t, f, api.FileInode, 1, 0, 0)
}

func TestOpenOfTheMost(t *testing.T) {
	f := fdtab.New()
	for id := range 64 {
		opens(t, f, 1+id%4, id, 0, id)
	}
	for kind := 1; kind <= 4; kind++ {
		openRefuses(t, f, kind, 1, 0, api.ErrFull)
	}
	openRefuses(t, f, 0, 1, 0, api.ErrArg)
	openRefuses(t, f, 5, 1, 0, api.ErrArg)
	if l := f.All(); len(l) != 64 || l[63] != 63 {
		t.Error("All", l)
	}
	drops(t, f, 41, api.File{Kind: 2, What: 41}, true, api.OK)
	opens(t, f, api.FileConsole, 99, 0, 41)
	openRefuses(t, f, api.FileRead, 1, 0, api.ErrFull)
	is(t, f, 41, api.File{Kind: api.FileConsole, What: 99, Refs: 1})
}

// A new one has the least number that is free, and nothing of what had it ahead.
func TestOpenTakesTheLeastNumber(t *testing.T) {
	f := fdtab.New()
	for id := range 5 {
		opens(t, f, api.FileInode, id, 1, id)
		moves(t, f, id, 9, api.OK)
	}
	for _, id := range []int{3, 1, 0} {
		drops(t, f, id, api.File{Kind: api.FileInode, What: id, At: 9, Flags: 1}, true, api.OK)
	}
	all(t, f, 2, 4)
	opens(t, f, api.FileRead, 50, 0, 0)
	opens(t, f, api.FileRead, 51, 0, 1)
	opens(t, f, api.FileRead, 52, 0, 3)
	opens(t, f, api.FileRead, 53, 0, 5)
	is(t, f, 1, api.File{Kind: api.FileRead, What: 51, Refs: 1})
	is(t, f, 2, api.File{Kind: api.FileInode, What: 2, At: 9, Flags: 1, Refs: 1})
	all(t, f, 0, 1, 2, 3, 4, 5)
}

func TestMove(t *testing.T) {
	f := fdtab.New()
	opens(t, f, api.FileInode, 1, 2, 0)
	opens(t, f, api.FileConsole, 1, 2, 1)
	for _, at := range []int{5, 0, 16384, 16385, math.MaxInt} {
		moves(t, f, 0, at, api.OK)
		is(t, f, 0, api.File{Kind: api.FileInode, What: 1, At: at, Flags: 2, Refs: 1})
	}
	moves(t, f, 0, -1, api.ErrArg)
	moves(t, f, 0, math.MinInt, api.ErrArg)
	is(t, f, 0, api.File{Kind: api.FileInode, What: 1, At: math.MaxInt, Flags: 2, Refs: 1})
	is(t, f, 1, api.File{Kind: api.FileConsole, What: 1, Flags: 2, Refs: 1})
	moves(t, f, 1, 3, api.OK)
	is(t, f, 1, api.File{Kind: api.FileConsole, What: 1, At: 3, Flags: 2, Refs: 1})
	isNone(t, f, 2)
}

func TestDrop(t *testing.T) {
	f := fdtab.New()
	table := f.Table()
	opens(t, f, api.FileWrite, 4, 1, 0)
	opens(t, f, api.FileWrite, 5, 1, 1)
	installs(t, table, 0, 0)
	dups(t, table, 0, 1)
	dups(t, table, 0, 2)
	moves(t, f, 0, 8, api.OK)
	drops(t, f, 0, api.File{Kind: api.FileWrite, What: 4, At: 8, Flags: 1, Refs: 2}, false, api.OK)
	is(t, f, 0, api.File{Kind: api.FileWrite, What: 4, At: 8, Flags: 1, Refs: 2})
	drops(t, f, 0, api.File{Kind: api.FileWrite, What: 4, At: 8, Flags: 1, Refs: 1}, false, api.OK)
	drops(t, f, 0, api.File{Kind: api.FileWrite, What: 4, At: 8, Flags: 1}, true, api.OK)
	isNone(t, f, 0)
	all(t, f, 1)
	is(t, f, 1, api.File{Kind: api.FileWrite, What: 5, Flags: 1, Refs: 1})
}

func TestOn(t *testing.T) {
	f := fdtab.New()
	opens(t, f, api.FileInode, 7, 0, 0)
	opens(t, f, api.FileInode, 7, 3, 1)
	opens(t, f, api.FileRead, 7, 0, 2)
	opens(t, f, api.FileInode, 8, 0, 3)
	opens(t, f, api.FileConsole, 0, 0, 4)
	table := f.Table()
	installs(t, table, 0, 0)
	dups(t, table, 0, 1)
	on(t, f, api.FileInode, 7, 2)
	on(t, f, api.FileRead, 7, 1)
	on(t, f, api.FileWrite, 7, 0)
	on(t, f, api.FileInode, 8, 1)
	on(t, f, api.FileConsole, 0, 1)
	on(t, f, 0, 0, 0)
	on(t, f, 0, 7, 0)
	on(t, f, math.MinInt, math.MaxInt, 0)
	closes(t, table, 0, api.File{Kind: api.FileInode, What: 7, Refs: 1}, false, api.OK)
	on(t, f, api.FileInode, 7, 2)
	closes(t, table, 1, api.File{Kind: api.FileInode, What: 7}, true, api.OK)
	on(t, f, api.FileInode, 7, 1)
	drops(t, f, 1, api.File{Kind: api.FileInode, What: 7, Flags: 3}, true, api.OK)
	on(t, f, api.FileInode, 7, 0)
	on(t, f, api.FileRead, 7, 1)
}

// R3

func TestAllIsNobodysElse(t *testing.T) {
	f := fdtab.New()
	opens(t, f, 1, 0, 0, 0)
	opens(t, f, 1, 0, 0, 1)
	first, second := f.All(), f.All()
	first[0], first[1] = 50, 51
	if !slices.Equal(second, []int{0, 1}) {
		t.Error("two answers share", second)
	}
	all(t, f, 0, 1)
}

// P22.3

func TestFilesThatNewDidNotGive(t *testing.T) {
	for _, f := range []*fdtab.Files{nil, {}} {
		openRefuses(t, f, api.FileInode, 1, 0, api.ErrClosed)
		openRefuses(t, f, 0, 1, 0, api.ErrClosed)
		if file, e := f.Get(0); file != (api.File{}) || e != api.ErrClosed {
			t.Error("Get", file, e)
		}
		moves(t, f, 0, 1, api.ErrClosed)
		moves(t, f, 0, -1, api.ErrClosed)
		drops(t, f, 0, api.File{}, false, api.ErrClosed)
		all(t, f)
		on(t, f, api.FileInode, 1, 0)
		if table := f.Table(); table != nil {
			t.Error("Table", table)
		}
	}
}
