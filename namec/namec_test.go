package namec_test

import (
	"math"
	"slices"
	"strings"
	"testing"

	"parapet/api"
	"parapet/namec"
	"parapet/rcu"
)

func domain(t *testing.T) *rcu.Domain {
	t.Helper()
	r, e := rcu.New(2)
	if e != api.OK {
		t.Fatal("rcu.New", e)
	}
	return r
}

func make1(t *testing.T, room int) (*namec.Cache, *rcu.Domain) {
	t.Helper()
	r := domain(t)
	c, e := namec.New(r, room)
	if e != api.OK || c == nil {
		t.Fatal("New", room, c, e)
	}
	return c, r
}

func name(dir int, s string) api.Name {
	return api.Name{Dir: dir, Name: s}
}

func puts(t *testing.T, c *namec.Cache, k api.Name, n int) {
	t.Helper()
	if e := c.Put(k, n); e != api.OK {
		t.Error("Put", k, n, e)
	}
}

func looks(t *testing.T, c *namec.Cache, k api.Name, want int) {
	t.Helper()
	if n, ok := c.Look(k); n != want || !ok {
		t.Error("Look", k, n, ok, "not", want)
	}
}

// unknown holds that nothing is kept under names.
func unknown(t *testing.T, c *namec.Cache, names ...api.Name) {
	t.Helper()
	for _, k := range names {
		if n, ok := c.Look(k); n != 0 || ok {
			t.Error("Look", k, n, ok)
		}
		if c.Forget(k) {
			t.Error("Forget", k)
		}
	}
}

func forgets(t *testing.T, c *namec.Cache, names ...api.Name) {
	t.Helper()
	for _, k := range names {
		if !c.Forget(k) {
			t.Error("Forget", k)
		}
	}
}

func keeps(t *testing.T, c *namec.Cache, want ...api.Name) {
	t.Helper()
	if l := c.Kept(); !slices.Equal(l, want) {
		t.Error("Kept", l, "not", want)
	}
}

// waits holds which entries were let go, in order.
func waits(t *testing.T, r *rcu.Domain, want ...int) {
	t.Helper()
	if l := r.Waiting(); !slices.Equal(l, want) {
		t.Error("Waiting", l, "not", want)
	}
}

// P19.1

func splits(t *testing.T, path string, want ...string) {
	t.Helper()
	if l, e := namec.Split(path); !slices.Equal(l, want) || e != api.OK {
		t.Errorf("Split %q: %q, %d, not %q", path, l, e, want)
	}
}

func noPath(t *testing.T, path string) {
	t.Helper()
	if l, e := namec.Split(path); l != nil || e != api.ErrPath {
		t.Errorf("Split %q: %q, %d", path, l, e)
	}
}

func TestSplit(t *testing.T) {
	splits(t, "/")
	splits(t, "//")
	splits(t, strings.Repeat("/", 64))
	splits(t, "/a", "a")
	splits(t, "//a/b/", "a", "b")
	splits(t, "/a///b//", "a", "b")
	splits(t, "/./../...", ".", "..", "...")
	splits(t, "/a/a/a", "a", "a", "a")
	splits(t, "/ /\\/\n", " ", "\\", "\n")
	splits(t, "/\xff\xe2/\x80\xa8/é", "\xff\xe2", "\x80\xa8", "é")
	splits(t, "/abcdefghijklmn/b", "abcdefghijklmn", "b")
	splits(t, strings.Repeat("/a", 32), slices.Repeat([]string{"a"}, 32)...)
	splits(t, strings.Repeat("/", 50)+"abcdefghijklmn", "abcdefghijklmn")
}

func TestPathsThatMayNotBe(t *testing.T) {
	for _, path := range []string{
		"", "a", "a/b", " /a", "\x00", "\\a", "é/", "/\x00", "/a\x00", "/a/\x00/b", "\x00/a",
		"/abcdefghijklmno", "/a/abcdefghijklmno/b", "/a/abcdefghijklmno", "/éééééééé",
		strings.Repeat("/", 65), strings.Repeat("/a", 33), strings.Repeat("/a", 32) + "/", strings.Repeat("/", 51) + "abcdefghijklmn", strings.Repeat("/abcdefg", 8) + "/",
		strings.Repeat("/a", 1<<16), strings.Repeat("a", 1<<16),
	} {
		noPath(t, path)
	}
	splits(t, strings.Repeat("/abcdefg", 8), slices.Repeat([]string{"abcdefg"}, 8)...)
}

func TestEachByteOfAPath(t *testing.T) {
	for c := range 256 {
		b := string([]byte{byte(c)})
		switch c {
		case 0:
			noPath(t, "/"+b)
			noPath(t, "/a"+b+"b")
			noPath(t, "/a/"+b)
		case '/':
			splits(t, "/"+b)
			splits(t, "/a"+b+"b", "a", "b")
		default:
			noPath(t, b)
			noPath(t, b+"/a")
			splits(t, "/"+b, b)
			splits(t, "/a"+b+"b/"+b+"/", "a"+b+"b", b)
		}
	}
}

// A list is new memory, its spare room too.
func TestSplitIsACopy(t *testing.T) {
	l, _ := namec.Split("/a/b/c")
	clear(l[:cap(l)])
	splits(t, "/a/b/c", "a", "b", "c")
}

func TestNew(t *testing.T) {
	r := domain(t)
	for _, room := range []int{math.MinInt, -1, 0, 4097, math.MaxInt32, math.MaxInt} {
		if c, e := namec.New(r, room); c != nil || e != api.ErrArg {
			t.Error("New", room, c, e)
		}
	}
	for _, room := range []int{-1, 0, 1, 4096, 4097} {
		if c, e := namec.New(nil, room); c != nil || e != api.ErrArg {
			t.Error("New of no domain", room, c, e)
		}
	}
	for _, room := range []int{1, 2, 4095, 4096} {
		c, e := namec.New(r, room)
		if c == nil || e != api.OK {
			t.Fatal("New", room, c, e)
		}
		keeps(t, c)
		unknown(t, c, name(0, ""), name(1, "a"))
	}
	waits(t, r)
}

func TestPut(t *testing.T) {
	c, r := make1(t, 10)
	puts(t, c, name(1, "a"), 5)
	puts(t, c, name(1, "b"), 0)
	puts(t, c, name(2, "a"), math.MaxInt)
	looks(t, c, name(1, "a"), 5)
	looks(t, c, name(1, "b"), 0)
	looks(t, c, name(2, "a"), math.MaxInt)
	unknown(t, c, name(2, "b"), name(0, "a"), name(1, "A"), name(1, ""), name(-1, "a"), name(1, "a\x00"))
	keeps(t, c, name(1, "a"), name(1, "b"), name(2, "a"))
	waits(t, r)
	// A look changes no order.
	puts(t, c, name(3, "c"), 1)
	keeps(t, c, name(1, "a"), name(1, "b"), name(2, "a"), name(3, "c"))
}

// Whatever is a name is one that may be kept.
func TestPutOfOddNames(t *testing.T) {
	c, _ := make1(t, 100)
	l := []api.Name{name(0, ""), name(-1, "a"), name(math.MinInt, "/"), name(math.MaxInt, "\x00"), name(1, strings.Repeat("x", 1000)), name(1, "\xff")}
	for i, k := range l {
		puts(t, c, k, i)
	}
	for i, k := range l {
		looks(t, c, k, i)
	}
	keeps(t, c, l...)
	forgets(t, c, l...)
	keeps(t, c)
}

func TestPutBelow0(t *testing.T) {
	c, r := make1(t, 1)
	puts(t, c, name(1, "a"), 5)
	for _, n := range []int{-1, math.MinInt32, math.MinInt} {
		for _, k := range []api.Name{name(1, "a"), name(1, "b")} {
			if e := c.Put(k, n); e != api.ErrArg {
				t.Error("Put", k, n, e)
			}
		}
	}
	looks(t, c, name(1, "a"), 5)
	unknown(t, c, name(1, "b"))
	keeps(t, c, name(1, "a"))
	waits(t, r)
	// No number was spent on them.
	puts(t, c, name(1, "c"), 6)
	forgets(t, c, name(1, "c"))
	waits(t, r, 1, 2)
}

// What was kept under a name is let go, and the name is the last one then.
func TestPutAgain(t *testing.T) {
	c, r := make1(t, 3)
	puts(t, c, name(1, "a"), 5)
	puts(t, c, name(1, "b"), 6)
	puts(t, c, name(1, "c"), 7)
	puts(t, c, name(1, "b"), 8)
	keeps(t, c, name(1, "a"), name(1, "c"), name(1, "b"))
	looks(t, c, name(1, "b"), 8)
	waits(t, r, 2)
	// The same inode is no exception.
	puts(t, c, name(1, "a"), 5)
	keeps(t, c, name(1, "c"), name(1, "b"), name(1, "a"))
	waits(t, r, 2, 1)
	// A further one takes the place of the one that was put in first.
	puts(t, c, name(1, "d"), 9)
	keeps(t, c, name(1, "b"), name(1, "a"), name(1, "d"))
	unknown(t, c, name(1, "c"))
	waits(t, r, 2, 1, 3)
	puts(t, c, name(1, "e"), 9)
	waits(t, r, 2, 1, 3, 4)
	keeps(t, c, name(1, "a"), name(1, "d"), name(1, "e"))
}

func TestRoomOfOne(t *testing.T) {
	c, r := make1(t, 1)
	for i := range 5 {
		puts(t, c, name(i, "a"), i)
		keeps(t, c, name(i, "a"))
		looks(t, c, name(i, "a"), i)
	}
	waits(t, r, 1, 2, 3, 4)
	puts(t, c, name(4, "a"), 7)
	keeps(t, c, name(4, "a"))
	waits(t, r, 1, 2, 3, 4, 5)
}

func TestGreatestRoom(t *testing.T) {
	c, r := make1(t, 4096)
	var l []api.Name
	for i := range 4096 {
		l = append(l, name(i%7, strings.Repeat("x", i%13)+string([]byte{byte(i), byte(i >> 8)})))
		puts(t, c, l[i], i)
	}
	keeps(t, c, l...)
	waits(t, r)
	puts(t, c, name(9, "one more"), 9)
	keeps(t, c, append(l[1:], name(9, "one more"))...)
	waits(t, r, 1)
}

func TestForget(t *testing.T) {
	c, r := make1(t, 10)
	for i, s := range []string{"a", "b", "c", "d"} {
		puts(t, c, name(1, s), i)
	}
	// One under which it is known that there is none is kept, too.
	forgets(t, c, name(1, "c"), name(1, "a"))
	unknown(t, c, name(1, "a"), name(1, "c"), name(2, "b"))
	keeps(t, c, name(1, "b"), name(1, "d"))
	looks(t, c, name(1, "b"), 1)
	waits(t, r, 3, 1)
	puts(t, c, name(1, "a"), 7)
	keeps(t, c, name(1, "b"), name(1, "d"), name(1, "a"))
	forgets(t, c, name(1, "a"))
	waits(t, r, 3, 1, 5)
}

func TestForgetDir(t *testing.T) {
	c, r := make1(t, 10)
	for i, k := range []api.Name{name(1, "b"), name(2, "a"), name(1, "a"), name(3, "a"), name(1, ""), name(2, "c")} {
		puts(t, c, k, i)
	}
	puts(t, c, name(1, "b"), 9)
	waits(t, r, 1)
	for _, dir := range []int{0, 4, -1, math.MinInt, math.MaxInt} {
		if n := c.ForgetDir(dir); n != 0 {
			t.Error("ForgetDir", dir, n)
		}
	}
	if n := c.ForgetDir(1); n != 3 {
		t.Error("ForgetDir", n)
	}
	keeps(t, c, name(2, "a"), name(3, "a"), name(2, "c"))
	unknown(t, c, name(1, "a"), name(1, "b"), name(1, ""))
	waits(t, r, 1, 3, 5, 7)
	if n := c.ForgetDir(1); n != 0 {
		t.Error("ForgetDir", n)
	}
	if n := c.ForgetDir(2); n != 2 {
		t.Error("ForgetDir", n)
	}
	waits(t, r, 1, 3, 5, 7, 2, 6)
	keeps(t, c, name(3, "a"))
}

// A list is new memory, its spare room too, and what is asked changes nothing.
func TestKeptIsACopy(t *testing.T) {
	c, r := make1(t, 4)
	puts(t, c, name(1, "a"), 5)
	puts(t, c, name(1, "b"), 6)
	l := c.Kept()
	clear(l[:cap(l)])
	keeps(t, c, name(1, "a"), name(1, "b"))
	puts(t, c, name(1, "c"), 7)
	m := c.Kept()
	puts(t, c, name(1, "d"), 7)
	forgets(t, c, name(1, "a"))
	if !slices.Equal(m, []api.Name{name(1, "a"), name(1, "b"), name(1, "c")}) {
		t.Error("Kept", m)
	}
	waits(t, r, 1)
}

// An entry whose number somebody else has deferred waits as that one.
func TestNumbersThatWaitAlready(t *testing.T) {
	c, r := make1(t, 4)
	r.Defer(2)
	r.Defer(77)
	puts(t, c, name(1, "a"), 5)
	puts(t, c, name(1, "b"), 6)
	forgets(t, c, name(1, "a"), name(1, "b"))
	keeps(t, c)
	waits(t, r, 2, 77, 1)
}

// P19.3

func TestNone(t *testing.T) {
	for _, c := range []*namec.Cache{nil, {}} {
		if n, ok := c.Look(name(1, "a")); n != 0 || ok {
			t.Error("Look", n, ok)
		}
		for _, n := range []int{5, -1} {
			if e := c.Put(name(1, "a"), n); e != api.ErrClosed {
				t.Error("Put", e)
			}
		}
		if c.Forget(name(1, "a")) || c.ForgetDir(1) != 0 || c.Kept() != nil {
			t.Error("Forget, ForgetDir, Kept")
		}
		for _, path := range []string{"/", "/a", "a", ""} {
			if n, e := c.Walk(nil, api.Layout{}, path); n != 0 || e != api.ErrClosed {
				t.Error("Walk", path, n, e)
			}
			if n, s, e := c.Parent(nil, api.Layout{}, path); n != 0 || s != "" || e != api.ErrClosed {
				t.Error("Parent", path, n, s, e)
			}
		}
	}
}

// P19.5: what is let go is ready only when no reader that was in a section then is in it still.
func TestReaders(t *testing.T) {
	c, r := make1(t, 1)
	readies := func(want ...int) {
		t.Helper()
		if l := r.Ready(); !slices.Equal(l, want) {
			t.Error("Ready", l, "not", want)
		}
	}
	puts(t, c, name(1, "a"), 5)
	r.Enter(0)
	puts(t, c, name(1, "b"), 6) // in the place of a
	for range 5 {
		r.Pass(1)
		r.Step()
	}
	forgets(t, c, name(1, "b"))
	readies()
	waits(t, r, 1, 2)
	r.Leave(0)
	r.Enter(1)
	for range 5 {
		r.Pass(0)
		r.Step()
	}
	readies(1)
	r.Leave(1)
	for range 3 {
		r.Pass(0)
		r.Pass(1)
		r.Step()
	}
	readies(2)
	waits(t, r)
}
