package fdtab_test

import (
	"math"
	"slices"
	"testing"

	"parapet/api"
	"parapet/fdtab"
)

func installs(t *testing.T, table *fdtab.Table, id, want int) {
	t.Helper()
	if fd, e := table.Install(id); fd != want || e != api.OK {
		t.Fatalf("Install(%d): %d %v, not %d", id, fd, e, want)
	}
}

func installRefuses(t *testing.T, table *fdtab.Table, id int, want api.Errno) {
	t.Helper()
	if fd, e := table.Install(id); fd != 0 || e != want {
		t.Errorf("Install(%d): %d %v, not %v", id, fd, e, want)
	}
}

func dups(t *testing.T, table *fdtab.Table, fd, want int) {
	t.Helper()
	if other, e := table.Dup(fd); other != want || e != api.OK {
		t.Fatalf("Dup(%d): %d %v, not %d", fd, other, e, want)
	}
}

func dupRefuses(t *testing.T, table *fdtab.Table, fd int, want api.Errno) {
	t.Helper()
	if other, e := table.Dup(fd); other != 0 || e != want {
		t.Errorf("Dup(%d): %d %v, not %v", fd, other, e, want)
	}
}

func closes(t *testing.T, table *fdtab.Table, fd int, want api.File, closed bool, e api.Errno) {
	t.Helper()
	if file, over, g := table.Close(fd); file != want || over != closed || g != e {
		t.Errorf("Close(%d): %v %v %v, not %v %v %v", fd, file, over, g, want, closed, e)
	}
}

func forks(t *testing.T, table *fdtab.Table) *fdtab.Table {
	t.Helper()
	other, e := table.Fork()
	if other == nil || e != api.OK {
		t.Fatal("Fork", other, e)
	}
	return other
}

func gets(t *testing.T, table *fdtab.Table, fd, want int, e api.Errno) {
	t.Helper()
	if id, f := table.Get(fd); id != want || f != e {
		t.Errorf("Get(%d): %d %v, not %d %v", fd, id, f, want, e)
	}
}

// fds holds which descriptors name an open file.
func fds(t *testing.T, table *fdtab.Table, want ...int) {
	t.Helper()
	if l := table.Fds(); !slices.Equal(l, want) || table.Free() != 16-len(want) {
		t.Errorf("Fds, Free: %v %d, not %v", l, table.Free(), want)
	}
}

// free holds that such descriptors name none, whoever asks.
func free(t *testing.T, table *fdtab.Table, l ...int) {
	t.Helper()
	for _, fd := range l {
		gets(t, table, fd, 0, api.ErrFd)
		dupRefuses(t, table, fd, api.ErrFd)
		closes(t, table, fd, api.File{}, false, api.ErrFd)
	}
}

// inode is an open file on inode 5.
func inode(at, refs int) api.File {
	return api.File{Kind: api.FileInode, What: 5, At: at, Refs: refs}
}

// one is Files with one open file on inode 5, and a table that names none.
func one(t *testing.T) (*fdtab.Files, *fdtab.Table) {
	t.Helper()
	f := fdtab.New()
	opens(t, f, api.FileInode, 5, 0, 0)
	return f, f.Table()
}

// P22.2

func TestTable(t *testing.T) {
	f, table := one(t)
	fds(t, table)
	free(t, table, 0, 1, 15, 16, 17, -1, math.MinInt, math.MaxInt)
	other := f.Table()
	installs(t, table, 0, 0)
	fds(t, other)
	fds(t, table, 0)
	is(t, f, 0, inode(0, 1))
}

func TestInstall(t *testing.T) {
	f, table := one(t)
	opens(t, f, api.FileConsole, 0, 0, 1)
	installs(t, table, 1, 0)
	installs(t, table, 0, 1)
	gets(t, table, 0, 1, api.OK)
	gets(t, table, 1, 0, api.OK)
	fds(t, table, 0, 1)
	is(t, f, 0, inode(0, 1))
	for _, id := range []int{2, 63, 64, -1, -2, math.MinInt, math.MaxInt} {
		installRefuses(t, table, id, api.ErrFile)
	}
	fds(t, table, 0, 1)
	closes(t, table, 0, api.File{Kind: api.FileConsole}, true, api.OK)
	installRefuses(t, table, 1, api.ErrFile)
	free(t, table, 0, 2)
	gets(t, table, 1, 0, api.OK)
	fds(t, table, 1)
	opens(t, f, api.FileRead, 3, 0, 1)
	installs(t, table, 1, 0)
	fds(t, table, 0, 1)
}

func TestTableOfTheMost(t *testing.T) {
	f, table := one(t)
	var l []int
	for id := range 16 {
		if id > 0 {
			opens(t, f, api.FileRead, id, 0, id)
		}
		installs(t, table, id, id)
		l = append(l, id)
		fds(t, table, l...)
	}
	opens(t, f, api.FileRead, 99, 0, 16)
	installRefuses(t, table, 16, api.ErrFull)
	installRefuses(t, table, 0, api.ErrFull)
	installRefuses(t, table, 17, api.ErrFile)
	dupRefuses(t, table, 0, api.ErrFull)
	dupRefuses(t, table, 15, api.ErrFull)
	dupRefuses(t, table, 16, api.ErrFd)
	dupRefuses(t, table, -1, api.ErrFd)
	is(t, f, 0, inode(0, 1))
	is(t, f, 16, api.File{Kind: api.FileRead, What: 99, Refs: 1})
	fds(t, table, l...)
	closes(t, table, 9, api.File{Kind: api.FileRead, What: 9}, true, api.OK)
	closes(t, table, 4, api.File{Kind: api.FileRead, What: 4}, true, api.OK)
	dups(t, table, 0, 4)
	installs(t, table, 16, 9)
	dupRefuses(t, table, 0, api.ErrFull)
	is(t, f, 0, inode(0, 2))
	fds(t, table, l...)
}

func TestDup(t *testing.T) {
	f, table := one(t)
	installs(t, table, 0, 0)
	dups(t, table, 0, 1)
	dups(t, table, 1, 2)
	gets(t, table, 2, 0, api.OK)
	is(t, f, 0, inode(0, 3))
	closes(t, table, 1, inode(0, 2), false, api.OK)
	fds(t, table, 0, 2)
	dups(t, table, 2, 1)
	is(t, f, 0, inode(0, 3))
	all(t, f, 0)
}

func TestClose(t *testing.T) {
	f, table := one(t)
	installs(t, table, 0, 0)
	dups(t, table, 0, 1)
	moves(t, f, 0, 6, api.OK)
	closes(t, table, 0, inode(6, 1), false, api.OK)
	free(t, table, 0)
	gets(t, table, 1, 0, api.OK)
	closes(t, table, 1, inode(6, 0), true, api.OK)
	free(t, table, 0, 1)
	fds(t, table)
	isNone(t, f, 0)
	all(t, f)
}

func TestFork(t *testing.T) {
	f, table := one(t)
	opens(t, f, api.FileConsole, 0, 0, 1)
	opens(t, f, api.FileRead, 2, 0, 2)
	installs(t, table, 1, 0)
	installs(t, table, 0, 1)
	dups(t, table, 1, 2)
	dups(t, table, 0, 3)
	closes(t, table, 0, api.File{Kind: api.FileConsole, Refs: 1}, false, api.OK)
	child := forks(t, table)
	is(t, f, 0, inode(0, 4))
	is(t, f, 1, api.File{Kind: api.FileConsole, Refs: 2})
	is(t, f, 2, api.File{Kind: api.FileRead, What: 2, Refs: 1})
	for _, x := range []*fdtab.Table{table, child} {
		fds(t, x, 1, 2, 3)
		gets(t, x, 1, 0, api.OK)
		gets(t, x, 2, 0, api.OK)
		gets(t, x, 3, 1, api.OK)
		free(t, x, 0, 4)
	}
	// Behind it each goes on by itself.
	closes(t, child, 2, inode(0, 3), false, api.OK)
	fds(t, table, 1, 2, 3)
	dups(t, table, 3, 0)
	free(t, child, 0, 2)
	fds(t, child, 1, 3)
	is(t, f, 1, api.File{Kind: api.FileConsole, Refs: 3})
	grandchild := forks(t, child)
	fds(t, grandchild, 1, 3)
	is(t, f, 0, inode(0, 4))
}

func TestForkOfATableThatNamesNone(t *testing.T) {
	f, table := one(t)
	child := forks(t, table)
	fds(t, child)
	is(t, f, 0, inode(0, 1))
	installs(t, child, 0, 0)
	fds(t, table)
}

// A full table forks, and 64 open files are no bound of a fork: nothing is opened.
func TestForkOfTheMost(t *testing.T) {
	f := fdtab.New()
	for id := range 64 {
		opens(t, f, api.FileInode, 5, 0, id)
	}
	table := f.Table()
	for id := range 16 {
		installs(t, table, 4*id, id)
	}
	for n := range 100 {
		child := forks(t, table)
		is(t, f, 60, inode(0, n+2))
		is(t, f, 61, inode(0, 1))
		gets(t, child, 15, 60, api.OK)
		installRefuses(t, child, 61, api.ErrFull)
	}
}

// P22.1: whose Ref somebody else drops, still names the number: what is told of it is told of the number.
func TestDescriptorOfAClosedNumber(t *testing.T) {
	f, table := one(t)
	installs(t, table, 0, 0)
	drops(t, f, 0, inode(0, 0), true, api.OK)
	gets(t, table, 0, 0, api.OK)
	fds(t, table, 0)
	dupRefuses(t, table, 0, api.ErrFile)
	installRefuses(t, table, 0, api.ErrFile)
	child := forks(t, table)
	gets(t, child, 0, 0, api.OK)
	fds(t, child, 0)
	fds(t, table, 0)
	all(t, f)
	// Close: it names none, and what Drop tells is told.
	closes(t, table, 0, api.File{}, false, api.ErrFile)
	free(t, table, 0)
	fds(t, table)
	fds(t, child, 0)
	all(t, f)
}

func TestDescriptorOfANumberOpenedAnew(t *testing.T) {
	f, table := one(t)
	installs(t, table, 0, 0)
	drops(t, f, 0, inode(0, 0), true, api.OK)
	opens(t, f, api.FileConsole, 9, 0, 0)
	gets(t, table, 0, 0, api.OK)
	dups(t, table, 0, 1)
	is(t, f, 0, api.File{Kind: api.FileConsole, What: 9, Refs: 2})
	child := forks(t, table)
	is(t, f, 0, api.File{Kind: api.FileConsole, What: 9, Refs: 4})
	closes(t, child, 0, api.File{Kind: api.FileConsole, What: 9, Refs: 3}, false, api.OK)
	closes(t, table, 0, api.File{Kind: api.FileConsole, What: 9, Refs: 2}, false, api.OK)
	closes(t, table, 1, api.File{Kind: api.FileConsole, What: 9, Refs: 1}, false, api.OK)
	closes(t, child, 1, api.File{Kind: api.FileConsole, What: 9}, true, api.OK)
	all(t, f)
}

// In a full table, whose descriptors name closed numbers, ErrFile comes ahead of ErrFull.
func TestDupOfAClosedNumberInAFullTable(t *testing.T) {
	f, table := one(t)
	installs(t, table, 0, 0)
	for fd := 1; fd < 16; fd++ {
		dups(t, table, 0, fd)
	}
	dupRefuses(t, table, 3, api.ErrFull)
	for refs := 15; refs > 0; refs-- {
		drops(t, f, 0, inode(0, refs), false, api.OK)
	}
	drops(t, f, 0, inode(0, 0), true, api.OK)
	dupRefuses(t, table, 3, api.ErrFile)
	if table.Free() != 0 {
		t.Error("Free", table.Free())
	}
}

// R3

func TestFdsIsNobodysElse(t *testing.T) {
	_, table := one(t)
	installs(t, table, 0, 0)
	dups(t, table, 0, 1)
	first, second := table.Fds(), table.Fds()
	first[0], first[1] = 50, 51
	if !slices.Equal(second, []int{0, 1}) {
		t.Error("two answers share", second)
	}
	fds(t, table, 0, 1)
}

// P22.3

func TestTablesThatNoCallGave(t *testing.T) {
	for _, table := range []*fdtab.Table{nil, {}} {
		installRefuses(t, table, 0, api.ErrClosed)
		installRefuses(t, table, -1, api.ErrClosed)
		for _, fd := range []int{-1, 0, 16} {
			gets(t, table, fd, 0, api.ErrClosed)
			dupRefuses(t, table, fd, api.ErrClosed)
			closes(t, table, fd, api.File{}, false, api.ErrClosed)
		}
		if other, e := table.Fork(); other != nil || e != api.ErrClosed {
			t.Error("Fork", other, e)
		}
		if l := table.Fds(); len(l) != 0 || table.Free() != 0 {
			t.Error("Fds, Free", l, table.Free())
		}
	}
}

// P22.5

func TestOnePlace(t *testing.T) {
	f, table := one(t)
	opens(t, f, api.FileInode, 5, 0, 1)
	installs(t, table, 0, 0)
	dups(t, table, 0, 1)
	installs(t, table, 1, 2)
	child := forks(t, table)
	for at, x := range []*fdtab.Table{table, child} {
		for fd := range 2 {
			id, _ := x.Get(fd)
			moves(t, f, id, 10*at+fd+1, api.OK)
			for _, y := range []*fdtab.Table{table, child} {
				for other := range 2 {
					same, _ := y.Get(other)
					is(t, f, same, inode(10*at+fd+1, 4))
				}
				apart, _ := y.Get(2)
				is(t, f, apart, inode(0, 2))
			}
		}
	}
}

// Example 1.
func TestExample(t *testing.T) {
	f, table := one(t)
	installs(t, table, 0, 0)
	dups(t, table, 0, 1)
	child := forks(t, table)
	closes(t, table, 0, inode(0, 3), false, api.OK)
	closes(t, child, 0, inode(0, 2), false, api.OK)
	closes(t, table, 1, inode(0, 1), false, api.OK)
	closes(t, child, 1, inode(0, 0), true, api.OK)
	all(t, f)
}
