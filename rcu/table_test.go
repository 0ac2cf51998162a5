package rcu_test

import (
	"math"
	"slices"
	"strings"
	"testing"

	"parapet/api"
	"parapet/rcu"
)

// key is short for a directory and a name.
func key(dir int, name string) api.Name {
	return api.Name{Dir: dir, Name: name}
}

// makeTable is an empty table, and a domain of two harts.
func makeTable(t *testing.T, buckets int) (*rcu.Domain, *rcu.Table) {
	t.Helper()
	d := make1(t, 2)
	x, e := rcu.NewTable(d, buckets)
	if e != api.OK || x == nil {
		t.Fatal("NewTable", buckets, x, e)
	}
	return d, x
}

// puts puts a key in, with ten times its node's number.
func puts(t *testing.T, x *rcu.Table, k api.Name, want int) {
	t.Helper()
	if n, e := x.Put(k, 10*want); n != want || e != api.OK {
		t.Fatalf("Put(%v): %d %v, not %d", k, n, e, want)
	}
}

func dels(t *testing.T, x *rcu.Table, k api.Name, want int) {
	t.Helper()
	if n, e := x.Del(k); n != want || e != api.OK {
		t.Fatalf("Del(%v): %d %v, not %d", k, n, e, want)
	}
	if _, there := x.Get(k); there {
		t.Fatal("Get, though it was taken out", k)
	}
}

// nexts holds what stands behind a node.
func nexts(t *testing.T, x *rcu.Table, node, want int) {
	t.Helper()
	if n, e := x.Next(node); n != want || e != api.OK {
		t.Errorf("Next(%d): %d %v, not %d", node, n, e, want)
	}
}

// is holds what a node has.
func is(t *testing.T, x *rcu.Table, node int, k api.Name) {
	t.Helper()
	if got, v, e := x.At(node); got != k || v != 10*node || e != api.OK {
		t.Errorf("At(%d): %v %d %v, not %v", node, got, v, e, k)
	}
}

// gone holds that nothing is known of some nodes.
func gone(t *testing.T, x *rcu.Table, nodes ...int) {
	t.Helper()
	for _, node := range nodes {
		if n, e := x.Next(node); n != 0 || e != api.ErrGone {
			t.Errorf("Next(%d): %d %v", node, n, e)
		}
		if k, v, e := x.At(node); k != (api.Name{}) || v != 0 || e != api.ErrGone {
			t.Errorf("At(%d): %v %d %v", node, k, v, e)
		}
	}
}

// chain holds the nodes of a key's bucket.
func chain(t *testing.T, x *rcu.Table, k api.Name, want ...int) {
	t.Helper()
	var l []int
	for n := x.First(k); n != 0; {
		l = append(l, n)
		n, _ = x.Next(n)
	}
	if !slices.Equal(l, want) {
		t.Errorf("the chain of %v: %v, not %v", k, l, want)
	}
}

func frees(t *testing.T, x *rcu.Table, want ...int) {
	t.Helper()
	if l := x.Reclaim(); !slices.Equal(l, want) {
		t.Errorf("Reclaim: %v, not %v", l, want)
	}
}

// holds holds all keys.
func holds(t *testing.T, x *rcu.Table, want ...api.Name) {
	t.Helper()
	if l := x.All(); !slices.Equal(l, want) || x.Len() != len(want) {
		t.Errorf("All: %v, %d, not %v", l, x.Len(), want)
	}
}

// P10.3

func TestNewTable(t *testing.T) {
	d := make1(t, 1)
	for _, buckets := range []int{math.MinInt, -1, 0, 65, math.MaxInt} {
		if x, e := rcu.NewTable(d, buckets); x != nil || e != api.ErrArg {
			t.Error("NewTable", buckets, x, e)
		}
	}
	for _, buckets := range []int{0, 1, 64} {
		if x, e := rcu.NewTable(nil, buckets); x != nil || e != api.ErrArg {
			t.Error("NewTable of no domain", buckets, x, e)
		}
	}
	for _, buckets := range []int{1, 2, 63, 64} {
		x, e := rcu.NewTable(d, buckets)
		if e != api.OK || x == nil {
			t.Fatal("NewTable", buckets, x, e)
		}
		holds(t, x)
		frees(t, x)
		gone(t, x, math.MinInt, -1, 0, 1, 2, math.MaxInt)
		for dir := range buckets {
			if n := x.First(key(dir, "")); n != 0 {
				t.Error("First", buckets, n)
			}
		}
		puts(t, x, key(1, "a"), 1)
	}
}

func TestPut(t *testing.T) {
	_, x := makeTable(t, 4)
	puts(t, x, key(1, "a"), 1)
	puts(t, x, key(1, "b"), 2)
	puts(t, x, key(2, "a"), 3)
	for _, k := range []api.Name{key(1, "a"), key(1, "b"), key(2, "a")} {
		if n, e := x.Put(k, 77); n != 0 || e != api.ErrTwice {
			t.Error("Put", k, n, e)
		}
	}
	puts(t, x, key(-1, "a"), 4)
	puts(t, x, key(0, "a"), 5)
	puts(t, x, key(1, ""), 6)
	puts(t, x, key(0, ""), 7)
	puts(t, x, key(1, "a\x00"), 8)
	puts(t, x, key(1, "\xff/é"), 9)
	want := []api.Name{key(-1, "a"), key(0, ""), key(0, "a"), key(1, ""), key(1, "a"), key(1, "a\x00"), key(1, "b"), key(1, "\xff/é"), key(2, "a")}
	holds(t, x, want...)
	for i, node := range []int{4, 7, 5, 6, 1, 8, 2, 9, 3} {
		is(t, x, node, want[i])
		if v, ok := x.Get(want[i]); v != 10*node || !ok {
			t.Error("Get", want[i], v, ok)
		}
	}
	for _, k := range []api.Name{key(2, "b"), key(-1, ""), key(3, "a"), key(1, "A"), key(1, "aa"), key(math.MinInt, "a")} {
		if v, ok := x.Get(k); v != 0 || ok {
			t.Error("Get of none", k, v, ok)
		}
	}
}

func TestValuesAreAnyNumbers(t *testing.T) {
	_, x := makeTable(t, 1)
	for i, want := range []int{0, -1, math.MinInt, math.MaxInt} {
		if n, e := x.Put(key(i, "a"), want); n != i+1 || e != api.OK {
			t.Error("Put", n, e)
		}
		if v, ok := x.Get(key(i, "a")); v != want || !ok {
			t.Error("Get", v, ok)
		}
		if _, v, e := x.At(i + 1); v != want || e != api.OK {
			t.Error("At", v, e)
		}
	}
}

func TestDel(t *testing.T) {
	d, x := makeTable(t, 2)
	for _, k := range []api.Name{key(1, "a"), key(0, "")} {
		if n, e := x.Del(k); n != 0 || e != api.ErrNone {
			t.Error("Del", k, n, e)
		}
	}
	puts(t, x, key(1, "a"), 1)
	puts(t, x, key(1, "b"), 2)
	puts(t, x, key(1, "c"), 3)
	waits(t, d)
	dels(t, x, key(1, "b"), 2)
	waits(t, d, 2)
	holds(t, x, key(1, "a"), key(1, "c"))
	if n, e := x.Del(key(1, "b")); n != 0 || e != api.ErrNone {
		t.Error("Del of one that was taken out", n, e)
	}
	waits(t, d, 2)
	// A key that comes again has a node of its own.
	puts(t, x, key(1, "b"), 4)
	if v, ok := x.Get(key(1, "b")); v != 40 || !ok {
		t.Error("Get", v, ok)
	}
	is(t, x, 2, key(1, "b"))
	is(t, x, 4, key(1, "b"))
	dels(t, x, key(1, "b"), 4)
	dels(t, x, key(1, "a"), 1)
	dels(t, x, key(1, "c"), 3)
	waits(t, d, 2, 4, 1, 3)
	holds(t, x)
	puts(t, x, key(1, "a"), 5)
	holds(t, x, key(1, "a"))
}

func TestAllRises(t *testing.T) {
	_, x := makeTable(t, 5)
	want := []api.Name{
		key(math.MinInt, "z"), key(-2, "b"), key(-1, "a"), key(0, ""), key(0, "A"), key(0, "a"), key(0, "a\x00"), key(0, "aa"), key(0, "b"),
		key(0, "é"), key(0, "\xff"), key(1, ""), key(9, "x"), key(10, "a"), key(math.MaxInt, "a"),
	}
	for i := range want {
		puts(t, x, want[(i*7+3)%len(want)], i+1)
	}
	holds(t, x, want...)
}

// Which bucket a key is in, in some of which the parts together are more than an int holds.
func TestBuckets(t *testing.T) {
	for _, c := range []struct {
		k       api.Name
		buckets int
		want    int
	}{
		{key(0, ""), 64, 0}, {key(63, ""), 64, 63}, {key(64, ""), 64, 0}, {key(130, ""), 64, 2}, {key(7, ""), 5, 2}, {key(12345, "abc"), 1, 0},
		{key(-1, ""), 64, 0}, {key(-63, ""), 64, 0}, {key(math.MinInt, ""), 60, 0}, {key(-7, "\x05"), 64, 5},
		{key(0, "\x01"), 64, 1}, {key(0, "\x00\x01"), 64, 2}, {key(0, "\x01\x01\x01"), 64, 6}, {key(3, "\x01\x02"), 64, 8},
		{key(0, "ab"), 64, 97 + 2*98 - 4*64}, {key(0, "ba"), 64, 98 + 2*97 - 4*64}, {key(5, "ab"), 10, 8},
		{key(0, "é"), 64, 0xc3 + 2*0xa9 - 8*64}, {key(0, "\xff"), 64, 63}, {key(0, "\xff\xff"), 7, 765 % 7},
		{key(0, strings.Repeat("\x01", 14)), 64, 105 - 64}, {key(0, strings.Repeat("\x03", 1000)), 61, 3 * 500500 % 61},
		{key(math.MaxInt, ""), 64, 63}, {key(math.MaxInt, "\x01"), 64, 0}, {key(math.MaxInt, "\x02"), 64, 1}, {key(math.MaxInt, "\xff\xff"), 64, (63 + 765) % 64},
		{key(math.MaxInt, "\x03"), 7, (math.MaxInt%7 + 3) % 7}, {key(math.MaxInt-1, "\xff\xff\xff"), 60, ((math.MaxInt-1)%60 + 6*255) % 60},
	} {
		_, x := makeTable(t, c.buckets)
		puts(t, x, c.k, 1)
		for bucket := range c.buckets {
			want := 0
			if bucket == c.want {
				want = 1
			}
			if n := x.First(key(bucket, "")); n != want {
				t.Errorf("%v of %d: First of bucket %d: %d", c.k, c.buckets, bucket, n)
			}
		}
		chain(t, x, c.k, 1)
		dels(t, x, c.k, 1)
		chain(t, x, c.k)
	}
}

// P10.4

func TestChainsHaveTheNewestFirst(t *testing.T) {
	_, x := makeTable(t, 3)
	for i := range 9 {
		puts(t, x, key(i, ""), i+1)
	}
	for bucket := range 3 {
		chain(t, x, key(bucket, ""), 7+bucket, 4+bucket, 1+bucket)
	}
	chain(t, x, key(99, "\x01"), 8, 5, 2)
	dels(t, x, key(4, ""), 5)
	puts(t, x, key(13, ""), 10)
	puts(t, x, key(4, ""), 11)
	chain(t, x, key(1, ""), 11, 10, 8, 2)
	dels(t, x, key(4, ""), 11)
	chain(t, x, key(1, ""), 10, 8, 2)
	dels(t, x, key(1, ""), 2)
	chain(t, x, key(1, ""), 10, 8)
	dels(t, x, key(13, ""), 10)
	dels(t, x, key(7, ""), 8)
	chain(t, x, key(1, ""))
	chain(t, x, key(0, ""), 7, 4, 1)
	chain(t, x, key(2, ""), 9, 6, 3)
}

// five is a table of one bucket, with five nodes, the fifth one first.
func five(t *testing.T) (*rcu.Domain, *rcu.Table) {
	t.Helper()
	d, x := makeTable(t, 1)
	for i := 1; i <= 5; i++ {
		puts(t, x, key(i, "n"), i)
	}
	return d, x
}

func TestTakenOutNodesKnowWhatStoodBehind(t *testing.T) {
	_, x := five(t)
	dels(t, x, key(4, "n"), 4)
	nexts(t, x, 5, 3)
	nexts(t, x, 4, 3)
	dels(t, x, key(3, "n"), 3)
	nexts(t, x, 5, 2)
	nexts(t, x, 4, 3)
	nexts(t, x, 3, 2)
	is(t, x, 4, key(4, "n"))
	is(t, x, 3, key(3, "n"))
	dels(t, x, key(1, "n"), 1)
	nexts(t, x, 2, 0)
	nexts(t, x, 3, 2)
	nexts(t, x, 1, 0)
	dels(t, x, key(5, "n"), 5)
	nexts(t, x, 5, 2)
	puts(t, x, key(4, "n"), 6)
	nexts(t, x, 6, 2)
	nexts(t, x, 4, 3)
	chain(t, x, key(0, ""), 6, 2)
	dels(t, x, key(2, "n"), 2)
	nexts(t, x, 6, 0)
	nexts(t, x, 3, 2)
	nexts(t, x, 5, 2)
	chain(t, x, key(0, ""), 6)
}

func TestReclaim(t *testing.T) {
	d, x := five(t)
	dels(t, x, key(4, "n"), 4)
	dels(t, x, key(2, "n"), 2)
	frees(t, x)
	goesOn(t, d)
	dels(t, x, key(3, "n"), 3)
	frees(t, x)
	nexts(t, x, 4, 3)
	goesOn(t, d)
	waits(t, d, 4, 2, 3)
	frees(t, x, 4, 2)
	frees(t, x)
	gone(t, x, 4, 2, 0, 6, -1)
	nexts(t, x, 3, 1)
	is(t, x, 3, key(3, "n"))
	waits(t, d, 3)
	goesOn(t, d)
	frees(t, x, 3)
	gone(t, x, 2, 3, 4)
	waits(t, d)
	chain(t, x, key(0, ""), 5, 1)
	puts(t, x, key(2, "n"), 6)
	gone(t, x, 2)
}

// Numbers that are no nodes', or whose nodes stand in their chains, are forgotten.
func TestReclaimForgetsWhatElseIsReady(t *testing.T) {
	d, x := five(t)
	defers(t, d, 9, 3, -1, 0)
	dels(t, x, key(2, "n"), 2)
	defers(t, d, 6, 1)
	goesOn(t, d)
	goesOn(t, d)
	frees(t, x, 2)
	waits(t, d)
	ready(t, d)
	chain(t, x, key(0, ""), 5, 4, 3, 1)
	puts(t, x, key(6, "n"), 6)
	is(t, x, 6, key(6, "n"))
	// What was deferred once, when it stood in its chain, is freed when it was taken out.
	dels(t, x, key(3, "n"), 3)
	waits(t, d, 3)
	goesOn(t, d)
	goesOn(t, d)
	frees(t, x, 3)
	// A node that was freed already is not told again.
	defers(t, d, 3, 2, 4)
	goesOn(t, d)
	goesOn(t, d)
	frees(t, x)
	gone(t, x, 2, 3)
	is(t, x, 4, key(4, "n"))
}

// A node whose number waits already waits as that one does.
func TestNodeWaitsAsItsNumber(t *testing.T) {
	d, x := five(t)
	defers(t, d, 8, 4)
	goesOn(t, d)
	dels(t, x, key(3, "n"), 3)
	dels(t, x, key(4, "n"), 4)
	waits(t, d, 8, 4, 3)
	goesOn(t, d)
	dels(t, x, key(5, "n"), 5)
	frees(t, x, 4)
	gone(t, x, 4)
	nexts(t, x, 3, 2)
	goesOn(t, d)
	frees(t, x, 3)
	goesOn(t, d)
	frees(t, x, 5)
}

// Whoever asks the domain for what is ready takes it from the table, whose node is known till its number is ready anew.
func TestReadyTakesNodes(t *testing.T) {
	d, x := five(t)
	dels(t, x, key(4, "n"), 4)
	goesOn(t, d)
	goesOn(t, d)
	ready(t, d, 4)
	frees(t, x)
	nexts(t, x, 4, 3)
	puts(t, x, key(4, "n"), 6)
	defers(t, d, 4)
	goesOn(t, d)
	frees(t, x)
	goesOn(t, d)
	frees(t, x, 4)
	gone(t, x, 4)
	is(t, x, 6, key(4, "n"))
	if v, ok := x.Get(key(4, "n")); v != 60 || !ok {
		t.Error("Get", v, ok)
	}
}

// Two tables of one domain number their nodes each for itself, and take what is ready from each other.
func TestTwoTables(t *testing.T) {
	d, x := five(t)
	y, e := rcu.NewTable(d, 1)
	if e != api.OK {
		t.Fatal("NewTable", e)
	}
	puts(t, y, key(1, "y"), 1)
	puts(t, y, key(2, "y"), 2)
	dels(t, x, key(2, "n"), 2)
	dels(t, x, key(4, "n"), 4)
	dels(t, y, key(2, "y"), 2)
	waits(t, d, 2, 4)
	goesOn(t, d)
	goesOn(t, d)
	frees(t, y, 2)
	gone(t, y, 2)
	frees(t, x)
	is(t, x, 2, key(2, "n"))
	is(t, x, 4, key(4, "n"))
	is(t, y, 1, key(1, "y"))
	holds(t, y, key(1, "y"))
}

// P10.5

func TestOfNoTable(t *testing.T) {
	for _, x := range []*rcu.Table{nil, {}} {
		for _, k := range []api.Name{{}, key(1, "a"), key(-1, "")} {
			if n, e := x.Put(k, 1); n != 0 || e != api.ErrClosed {
				t.Error("Put", n, e)
			}
			if n, e := x.Del(k); n != 0 || e != api.ErrClosed {
				t.Error("Del", n, e)
			}
			if v, ok := x.Get(k); v != 0 || ok || x.First(k) != 0 {
				t.Error("Get, First", v, ok)
			}
		}
		for _, n := range []int{-1, 0, 1} {
			if n, e := x.Next(n); n != 0 || e != api.ErrClosed {
				t.Error("Next", n, e)
			}
			if k, v, e := x.At(n); k != (api.Name{}) || v != 0 || e != api.ErrClosed {
				t.Error("At", k, v, e)
			}
		}
		frees(t, x)
		holds(t, x)
	}
}

// P10.6, P10.7: a reader that stands at a node gets by Next to all that stays, whatever is taken out under it.
func TestWalkOverWhatIsTakenOut(t *testing.T) {
	d, x := five(t)
	enters(t, d, 1)
	at := x.First(key(0, ""))
	dels(t, x, key(5, "n"), 5)
	dels(t, x, key(4, "n"), 4)
	d.Step()
	passes(t, d, 0)
	if d.Step() {
		t.Error("Step, though a section was entered ahead")
	}
	dels(t, x, key(2, "n"), 2)
	puts(t, x, key(6, "n"), 6)
	frees(t, x)
	var l []int
	for at != 0 {
		is(t, x, at, key(at, "n"))
		l = append(l, at)
		at, _ = x.Next(at)
	}
	if !slices.Equal(l, []int{5, 4, 3, 1}) {
		t.Error("walked over", l)
	}
	leaves(t, d, 1)
	goesOn(t, d)
	frees(t, x, 5, 4)
	goesOn(t, d)
	frees(t, x, 2)
}

// R3

func TestTablesAnswersAreNewMemory(t *testing.T) {
	d, x := five(t)
	l := x.All()
	clear(l[:cap(l)])
	dels(t, x, key(2, "n"), 2)
	dels(t, x, key(3, "n"), 3)
	goesOn(t, d)
	goesOn(t, d)
	dels(t, x, key(1, "n"), 1)
	freed := x.Reclaim()
	if !slices.Equal(freed, []int{2, 3}) {
		t.Error("Reclaim", freed)
	}
	clear(freed[:cap(freed)])
	waits(t, d, 1)
	holds(t, x, key(4, "n"), key(5, "n"))
}
