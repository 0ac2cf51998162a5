package fsop_test

import (
	"slices"
	"testing"

	"parapet/api"
	"parapet/disk"
	"parapet/fsop"
)

// volatile is a small file system, whose log has room for seven blocks.
var volatile = api.Layout{Sectors: 64, Log: 8, Inodes: 16}

// life is a file system from a mount to the moment the power goes: the trees that were there, from the one that lasts for sure on.
type life struct {
	disk  *disk.Disk
	trees []*model
}

// commit commits, and tells whether the commit ended ahead of the power's going.
func (x *life) commit(t *testing.T, f *fsop.FS) bool {
	t.Helper()
	_, w, fl := x.disk.Counts()
	steps, e := f.Log().Commit()
	if e != api.OK {
		t.Fatal("Commit", e)
	}
	_, w2, fl2 := x.disk.Counts()
	if w2+fl2-w-fl != steps {
		return false
	}
	x.trees = x.trees[len(x.trees)-1:]
	return true
}

// goOn does operations by dice till the power goes, or so many are done, with a commit now and then.
func (x *life) goOn(t *testing.T, r *dice, f *fsop.FS, count int) {
	t.Helper()
	m := x.trees[0].clone()
	for range count {
		a := r.act(700)
		got := a.real(f)
		if got.e == api.ErrWait {
			if !x.commit(t, f) {
				return
			}
			got = a.real(f)
		}
		if got != (told{e: api.ErrSpace}) {
			if want := a.model(m); got != want {
				t.Fatal(a.name, got, "not", want)
			}
			x.trees = append(x.trees, m.clone())
		}
		if r.below(5) == 0 && !x.commit(t, f) {
			return
		}
	}
}

// found mounts the disk of a life behind its crash, and tells which tree it finds: the one that was there, without orphans.
func (x *life) found(t *testing.T, d *disk.Disk, whole bool) (*fsop.FS, *model) {
	t.Helper()
	f, n, e := fsop.Mount(d, domain(t), 16)
	if e != api.OK {
		t.Fatal("Mount", e)
	}
	items, e := f.Items()
	if e != api.OK || f.Check() != api.OK {
		t.Fatal("Items", e, "Check", f.Check())
	}
	orphans(t, f)
	var tree *model
	counted := false
	for _, m := range x.trees {
		if slices.Equal(m.items(), items) {
			tree = m.clone()
			counted = counted || len(m.orphans()) == n
		}
	}
	if tree == nil {
		t.Fatal("none of", len(x.trees), "trees")
	}
	if whole && !counted {
		t.Fatal("so many orphans were freed:", n)
	}
	for _, n := range tree.orphans() {
		tree.release(n)
	}
	return f, tree
}

// torn is what a crash keeps.
func (d *dice) torn(pending int) []api.Torn {
	var l []api.Torn
	for at := range pending {
		switch d.below(3) {
		case 0:
			l = append(l, api.Torn{At: at, Bytes: size})
		case 1:
			l = append(l, api.Torn{At: at, Bytes: 1 + d.below(size)})
		}
	}
	return l
}

// crashes is some ways in which a disk may crash: nothing persists, all, and some by dice.
func crashes(r *dice, pending, some int) [][]api.Torn {
	l := [][]api.Torn{nil, nil}
	for at := range pending {
		l[1] = append(l[1], api.Torn{At: at, Bytes: size})
	}
	for range some {
		l = append(l, r.torn(pending))
	}
	return l
}

func crashed(t *testing.T, d *disk.Disk, l []api.Torn) *disk.Disk {
	t.Helper()
	f := d.Fork()
	if e := f.Crash(l); e != api.OK {
		t.Fatal("Crash", l, e)
	}
	return f
}

// begun is a life on a new disk.
func begun(t *testing.T) (*life, *fsop.FS) {
	t.Helper()
	f := make2(t, volatile)
	return &life{disk: f.Log().Disk(), trees: []*model{makeModel(volatile.Inodes)}}, f
}

// P20.9: the power goes at each operation of the disk, whatever persists.
func TestPowerGoesAtEachOperation(t *testing.T) {
	for seed := range 12 {
		done := false
		for stop := 0; !done; stop++ {
			r := dice(seed)
			x, f := begun(t)
			x.disk.Stop(stop)
			x.goOn(t, &r, f, 100)
			done = !x.disk.Off()
			for _, l := range crashes(&r, len(x.disk.Pending()), 3) {
				x.found(t, crashed(t, x.disk, l), true)
			}
		}
	}
}

// P20.9: it goes in a mount, too, at each operation, also of one that frees orphans.
func TestPowerGoesInAMount(t *testing.T) {
	for seed := range 12 {
		r := dice(900 + seed)
		x, f := begun(t)
		x.disk.Stop(20 + r.below(150))
		x.goOn(t, &r, f, 60)
		for _, l := range crashes(&r, len(x.disk.Pending()), 1) {
			d := crashed(t, x.disk, l)
			_, tree := x.found(t, d.Fork(), true)
			y := &life{disk: d, trees: []*model{tree}}
			for stop, done := 0, false; !done; stop++ {
				g := d.Fork()
				g.Stop(stop)
				if _, _, e := fsop.Mount(g, domain(t), 16); e != api.OK {
					t.Fatal("Mount", e)
				}
				done = !g.Off()
				for _, l := range crashes(&r, len(g.Pending()), 2) {
					// Some of the orphans may be freed already: how many is not held.
					y.found(t, crashed(t, g, l), false)
				}
			}
		}
	}
}

// P20.9: life behind life, on one disk.
func TestPowerGoesAgainAndAgain(t *testing.T) {
	r := dice(209)
	for range 15 {
		x, f := begun(t)
		for range 15 {
			x.disk.Stop(r.below(120))
			x.goOn(t, &r, f, 60)
			if e := x.disk.Crash(r.torn(len(x.disk.Pending()))); e != api.OK {
				t.Fatal("Crash", e)
			}
			var tree *model
			f, tree = x.found(t, x.disk, true)
			x.trees = []*model{tree}
			hold(t, &r, f, tree)
		}
	}
}

// Examples 5 and 7 of the whole: behind a commit a directory is there; an open file that was unlinked is free behind a crash.
func TestWhatWasCommittedStays(t *testing.T) {
	f := make1(t)
	creates(t, f, "/f", 2)
	writes(t, f, 2, 0, "open")
	unlinks(t, f, "/f", 2, 0)
	mkdirs(t, f, "/d", 3)
	reads(t, f, 2, "open")
	d := f.Log().Disk()
	has(t, mounts(t, crashed(t, d, nil), 0), rootItem())
	commits(t, f)
	f = mounts(t, crashed(t, d, nil), 1)
	has(t, f, rootItem(), dirItem("/d", 3))
	stats(t, f, 2, api.InodeFree, 0)
}
