package dirent_test

import (
	"bytes"
	"math"
	"slices"
	"strings"
	"testing"

	"parapet/api"
	"parapet/dirent"
	"parapet/inode"
)

const size = api.SectorSize

// odd are numbers that no inode has.
var odd = []int{math.MinInt, math.MinInt + 1, math.MinInt32, -65536, -1, 0, 17, 24, 25, 256, 65535, 65536, 65537, math.MaxInt32, math.MaxInt32 + 1, math.MaxInt}

// refused is an error that no layer tells by itself.
const refused = api.Errno(777)

// example has inodes in blocks 9 and 10, the bitmap in block 11, data from 12 on.
var example = api.Layout{Sectors: 64, Log: 8, Inodes: 16}

// dir is the directory of these tests, file a file beside it.
const (
	dir  = 1
	file = 2
)

// store is blocks in memory, which refuses an operation if it is told to.
type store struct {
	blocks [][]byte
	writes []int
	asked  int
	left   int // operations up to the one that is refused; below 0: none is
}

func (s *store) refuses() bool {
	s.asked++
	s.left--
	return s.left == -1
}

func (s *store) Read(n int) ([]byte, api.Errno) {
	if s.refuses() {
		return nil, refused
	}
	return bytes.Clone(s.blocks[n]), api.OK
}

func (s *store) Write(n int, b []byte) api.Errno {
	s.writes = append(s.writes, n)
	if s.refuses() {
		return refused
	}
	s.blocks[n] = bytes.Clone(b)
	return api.OK
}

func (s *store) image() []byte {
	return bytes.Join(s.blocks, nil)
}

// same holds that nothing has been written.
func (s *store) same(t *testing.T, was []byte) {
	t.Helper()
	if !bytes.Equal(s.image(), was) || len(s.writes) != 0 {
		t.Error("something has changed", s.writes)
	}
}

// make1 is a store with a directory and a file.
func make1(t *testing.T) *store {
	t.Helper()
	s := &store{left: -1}
	for range example.Sectors {
		s.blocks = append(s.blocks, bytes.Repeat([]byte{'~'}, size))
	}
	if e := inode.Format(s, example); e != api.OK {
		t.Fatal("Format", e)
	}
	for want, kind := range []int{api.InodeDir, api.InodeFile} {
		if n, e := inode.Alloc(s, example, kind); n != want+1 || e != api.OK {
			t.Fatal("Alloc", n, e)
		}
	}
	s.writes = nil
	return s
}

// lay lets a directory's bytes be b.
func lay(t *testing.T, s *store, b []byte) {
	t.Helper()
	if e := inode.Truncate(s, example, dir, 0); e != api.OK {
		t.Fatal("Truncate", e)
	}
	if e := inode.Write(s, example, dir, 0, b); e != api.OK {
		t.Fatal("Write", e)
	}
	s.writes = nil
}

// bytesOf is a directory's bytes.
func bytesOf(t *testing.T, s *store) []byte {
	t.Helper()
	b, e := inode.Read(s, example, dir, 0, api.MaxFileSize)
	if e != api.OK {
		t.Fatal("Read", e)
	}
	return b
}

// slot is a slot's bytes, which the chapter tells.
func slot(name string, n int) []byte {
	b := make([]byte, 16)
	b[0], b[1] = byte(n), byte(n>>8)
	copy(b[2:], name)
	return b
}

func adds(t *testing.T, s api.Store, name string, n int) {
	t.Helper()
	if e := dirent.Add(s, example, dir, name, n); e != api.OK {
		t.Errorf("Add %q %d: %d", name, n, e)
	}
}

func removes(t *testing.T, s api.Store, name string, want int) {
	t.Helper()
	if n, e := dirent.Remove(s, example, dir, name); n != want || e != api.OK {
		t.Errorf("Remove %q: %d, %d", name, n, e)
	}
}

func changes(t *testing.T, s api.Store, name string, n, want int) {
	t.Helper()
	if was, e := dirent.Change(s, example, dir, name, n); was != want || e != api.OK {
		t.Errorf("Change %q %d: %d, %d", name, n, was, e)
	}
}

func finds(t *testing.T, s api.Store, name string, want int) {
	t.Helper()
	if n, e := dirent.Find(s, example, dir, name); n != want || e != api.OK {
		t.Errorf("Find %q: %d, %d, not %d", name, n, e, want)
	}
}

// none holds that a name is not there.
func none(t *testing.T, s api.Store, name string) {
	t.Helper()
	n, e := dirent.Find(s, example, dir, name)
	n1, e1 := dirent.Remove(s, example, dir, name)
	n2, e2 := dirent.Change(s, example, dir, name, 3)
	if n != 0 || n1 != 0 || n2 != 0 || e != api.ErrNone || e1 != e || e2 != e {
		t.Errorf("Find, Remove, Change of %q: %d %d %d, %d %d %d", name, n, n1, n2, e, e1, e2)
	}
}

// lists holds the entries, in order, and whether there is one.
func lists(t *testing.T, s api.Store, want ...api.Entry) {
	t.Helper()
	if l, e := dirent.List(s, example, dir); !slices.Equal(l, want) || e != api.OK {
		t.Error("List", l, e, "not", want)
	}
	if ok, e := dirent.Empty(s, example, dir); ok != (len(want) == 0) || e != api.OK {
		t.Error("Empty", ok, e)
	}
}

// mayBe and mayNot are names.
var (
	mayBe  = []string{"a", ".", "..", " ", "abcdefghijklmn", "\x01", "\xff\xfe", "\\", "a.b", "é", "a\n", "ABCDEFGHIJKLM\xc3", "~~~~~~~~~~~~~~"}
	mayNot = []string{"", "abcdefghijklmno", "/", "a/", "/a", "a/b", "\x00", "a\x00", "\x00a", "a\x00b", "abcdefghijklm/", "abcdefghijklm\x00", "éééééééé", "\xff\x00", "\xff/", strings.Repeat("a", 300), strings.Repeat("x", 65536+3)}
)

// P18.1

func TestCheck(t *testing.T) {
	for _, name := range mayBe {
		if e := dirent.Check(name); e != api.OK {
			t.Errorf("Check %q: %d", name, e)
		}
	}
	for _, name := range mayNot {
		if e := dirent.Check(name); e != api.ErrName {
			t.Errorf("Check %q: %d", name, e)
		}
	}
	for c := range 256 {
		want := api.OK
		if c == 0 || c == '/' {
			want = api.ErrName
		}
		for _, name := range []string{string([]byte{byte(c)}), string([]byte{'a', byte(c), 'b'}), "abcdefghijklm" + string([]byte{byte(c)})} {
			if e := dirent.Check(name); e != want {
				t.Errorf("Check %q: %d", name, e)
			}
		}
	}
}

func TestFind(t *testing.T) {
	s := make1(t)
	none(t, s, "a")
	lists(t, s)
	for i, name := range mayBe {
		adds(t, s, name, i+1)
	}
	var want []api.Entry
	for i, name := range mayBe {
		finds(t, s, name, i+1)
		want = append(want, api.Entry{Name: name, Inode: i + 1})
	}
	lists(t, s, want...)
	for _, name := range []string{"b", "aa", "A", "abcdefghijklm", "bcdefghijklmn", "\xff", "...", "  "} {
		none(t, s, name)
	}
}

// Example 1.
func TestExample(t *testing.T) {
	s := make1(t)
	adds(t, s, "a", 5)
	adds(t, s, "b", 6)
	removes(t, s, "a", 5)
	adds(t, s, "c", 7)
	lists(t, s, api.Entry{Name: "c", Inode: 7}, api.Entry{Name: "b", Inode: 6})
	if b := bytesOf(t, s); !bytes.Equal(b, slices.Concat(slot("c", 7), slot("b", 6))) {
		t.Error("bytes", b)
	}
}

func TestEmpty(t *testing.T) {
	s := make1(t)
	lists(t, s)
	lay(t, s, make([]byte, 48))
	lists(t, s)
	none(t, s, "a")
	// A hole is free slots.
	inode.Truncate(s, example, dir, 0)
	inode.Truncate(s, example, dir, 1024)
	lists(t, s)
	adds(t, s, "a", 3)
	lists(t, s, api.Entry{Name: "a", Inode: 3})
	removes(t, s, "a", 3)
	lists(t, s)
	if x, _ := inode.Get(s, example, dir); x.Size != 1024 {
		t.Error("Size", x.Size)
	}
}

// A list is new memory, its spare room too.
func TestListIsACopy(t *testing.T) {
	s := make1(t)
	lay(t, s, slices.Concat(slot("a", 3), make([]byte, 16), slot("b", 4)))
	l, _ := dirent.List(s, example, dir)
	clear(l[:cap(l)])
	lists(t, s, api.Entry{Name: "a", Inode: 3}, api.Entry{Name: "b", Inode: 4})
}

// P18.2

func TestAdd(t *testing.T) {
	s := make1(t)
	adds(t, s, "abcdefghijklmn", 16)
	adds(t, s, "b", 1)
	if b := bytesOf(t, s); !bytes.Equal(b, slices.Concat(slot("abcdefghijklmn", 16), slot("b", 1))) {
		t.Error("bytes", b)
	}
	x, _ := inode.Get(s, example, dir)
	if x != (api.Inode{Kind: api.InodeDir, Size: 32, Blocks: [13]int{12}}) {
		t.Error("Get", x)
	}
	// The first slot that is free.
	lay(t, s, slices.Concat(slot("p", 1), make([]byte, 16), slot("q", 2), make([]byte, 16)))
	was := s.image()
	adds(t, s, "r", 3)
	if n := 12*size + 16; !bytes.Equal(s.image(), slices.Concat(was[:n], slot("r", 3), was[n+16:])) {
		t.Error("other bytes have changed")
	}
	adds(t, s, "s", 4)
	adds(t, s, "t", 5)
	if b := bytesOf(t, s); !bytes.Equal(b, slices.Concat(slot("p", 1), slot("r", 3), slot("q", 2), slot("s", 4), slot("t", 5))) {
		t.Error("bytes", b)
	}
}

// An inode's number has two bytes.
func TestGreatNumbers(t *testing.T) {
	l := api.Layout{Sectors: 128, Log: 8, Inodes: 512}
	s := &store{left: -1}
	for range l.Sectors {
		s.blocks = append(s.blocks, make([]byte, size))
	}
	inode.Format(s, l)
	inode.Alloc(s, l, api.InodeDir)
	for i, n := range []int{255, 256, 257, 511, 512} {
		name := strings.Repeat("x", i+1)
		if e := dirent.Add(s, l, 1, name, n); e != api.OK {
			t.Error("Add", n, e)
		}
		if x, e := dirent.Find(s, l, 1, name); x != n || e != api.OK {
			t.Error("Find", n, x, e)
		}
	}
	if b, _ := inode.Read(s, l, 1, 0, 16); !bytes.Equal(b, slot("x", 255)) {
		t.Error("bytes", b)
	}
	if b, _ := inode.Read(s, l, 1, 64, 16); !bytes.Equal(b, slot("xxxxx", 512)) {
		t.Error("bytes", b)
	}
	if e := dirent.Add(s, l, 1, "y", 513); e != api.ErrArg {
		t.Error("Add", e)
	}
}

func TestAddOfNoInode(t *testing.T) {
	s := make1(t)
	adds(t, s, "a", 3)
	was := s.image()
	s.writes = nil
	for _, n := range odd {
		for _, name := range []string{"a", "b"} {
			if e := dirent.Add(s, example, dir, name, n); e != api.ErrArg {
				t.Error("Add", name, n, e)
			}
			if x, e := dirent.Change(s, example, dir, name, n); x != 0 || e != api.ErrArg {
				t.Error("Change", name, n, x, e)
			}
		}
	}
	s.same(t, was)
}

func TestAddTwice(t *testing.T) {
	s := make1(t)
	adds(t, s, "a", 3)
	adds(t, s, "b", 3)
	removes(t, s, "a", 3)
	was := s.image()
	s.writes = nil
	for n := 1; n <= 16; n++ {
		if e := dirent.Add(s, example, dir, "b", n); e != api.ErrExist {
			t.Error("Add", n, e)
		}
	}
	s.same(t, was)
}

// A directory has 1024 slots at most.
func TestAddBeyondTheMost(t *testing.T) {
	s := make1(t)
	var b []byte
	for i := range 1023 {
		b = append(b, slot(strings.Repeat("x", 1+i%13)+string([]byte{byte('A' + i/13)}), 1+i%16)...)
	}
	lay(t, s, b)
	adds(t, s, "last", 16)
	finds(t, s, "last", 16)
	was := s.image()
	s.writes = nil
	if e := dirent.Add(s, example, dir, "one more", 16); e != api.ErrRange {
		t.Error("Add", e)
	}
	s.same(t, was)
	removes(t, s, "xxxxxxxxxxA", 10)
	adds(t, s, "one more", 16)
	if b := bytesOf(t, s)[9*16:][:16]; !bytes.Equal(b, slot("one more", 16)) {
		t.Error("bytes", b)
	}
}

func TestAddWithoutSpace(t *testing.T) {
	s := make1(t)
	if e := inode.Write(s, example, file, 0, make([]byte, 31*size)); e != api.OK {
		t.Fatal("Write", e)
	}
	for n := range 20 {
		inode.Alloc(s, example, api.InodeFile)
		inode.Write(s, example, 3, n*size, []byte{1})
	}
	was := s.image()
	s.writes = nil
	if e := dirent.Add(s, example, dir, "a", 3); e != api.ErrSpace {
		t.Error("Add", e)
	}
	s.same(t, was)
	lists(t, s)
}

func TestRemove(t *testing.T) {
	s := make1(t)
	lay(t, s, slices.Concat(slot("a", 3), slot("b", 4), slot("c", 5)))
	was := s.image()
	removes(t, s, "b", 4)
	if n := 12*size + 16; !bytes.Equal(s.image(), slices.Concat(was[:n], make([]byte, 16), was[n+16:])) {
		t.Error("other bytes have changed")
	}
	none(t, s, "b")
	lists(t, s, api.Entry{Name: "a", Inode: 3}, api.Entry{Name: "c", Inode: 5})
	removes(t, s, "c", 5)
	removes(t, s, "a", 3)
	lists(t, s)
	if b := bytesOf(t, s); !bytes.Equal(b, make([]byte, 48)) {
		t.Error("bytes", b)
	}
}

func TestChange(t *testing.T) {
	s := make1(t)
	lay(t, s, slices.Concat(slot("a", 3), slot("b", 4), slot("c", 5)))
	was := s.image()
	changes(t, s, "b", 16, 4)
	if n := 12*size + 16; !bytes.Equal(s.image(), slices.Concat(was[:n], slot("b", 16), was[n+16:])) {
		t.Error("other bytes have changed")
	}
	changes(t, s, "b", 16, 16)
	changes(t, s, "b", 1, 16)
	changes(t, s, "a", 1, 3)
	lists(t, s, api.Entry{Name: "a", Inode: 1}, api.Entry{Name: "b", Inode: 1}, api.Entry{Name: "c", Inode: 5})
}

func TestOfNone(t *testing.T) {
	s := make1(t)
	adds(t, s, "a", 3)
	was := s.image()
	s.writes = nil
	for _, name := range []string{"b", "aa", "A"} {
		none(t, s, name)
	}
	s.same(t, was)
}

// The errors, in their order.

// answer is what calls have answered: the first error of all, and whether all told the same, and nothing beside it.
type answer struct {
	e    api.Errno
	same bool
}

// named asks all calls that are handed a name, with a number that may not be.
func named(s api.Store, l api.Layout, dir int, name string) answer {
	n, e := dirent.Find(s, l, dir, name)
	e1 := dirent.Add(s, l, dir, name, -1)
	n2, e2 := dirent.Remove(s, l, dir, name)
	n3, e3 := dirent.Change(s, l, dir, name, -1)
	return answer{e, n == 0 && n2 == 0 && n3 == 0 && e1 == e && e2 == e && e3 == e}
}

// unnamed asks the others.
func unnamed(s api.Store, l api.Layout, dir int) answer {
	x, e := dirent.List(s, l, dir)
	ok, e1 := dirent.Empty(s, l, dir)
	return answer{e, x == nil && !ok && e1 == e}
}

func TestNamesThatMayNotBe(t *testing.T) {
	s := make1(t)
	adds(t, s, "a", 3)
	was := s.image()
	s.writes, s.asked = nil, 0
	for _, name := range mayNot {
		for _, n := range []int{dir, file, 0, -1, 17} {
			for _, l := range []api.Layout{example, {}} {
				if x := named(s, l, n, name); x != (answer{api.ErrName, true}) {
					t.Errorf("%q: %v", name, x)
				}
			}
		}
	}
	s.same(t, was)
	if s.asked != 0 {
		t.Error("asked", s.asked)
	}
}

func TestNoDirectory(t *testing.T) {
	s := make1(t)
	// A file whose bytes are a directory's.
	inode.Write(s, example, file, 0, slot("a", 3))
	s.blocks[9][3*64] = 3 // inode 4 may not be
	was := s.image()
	s.writes = nil
	for _, x := range []struct {
		s   api.Store
		l   api.Layout
		dir int
		e   api.Errno
	}{
		{s, api.Layout{}, dir, api.ErrArg}, {s, api.Layout{Sectors: 64, Log: 8, Inodes: 1}, 99, api.ErrArg}, {nil, example, dir, api.ErrArg},
		{s, example, 0, api.ErrInode}, {s, example, 17, api.ErrInode}, {s, example, math.MinInt, api.ErrInode}, {s, example, math.MaxInt, api.ErrInode},
		{s, example, 4, api.ErrInode}, {s, example, file, api.ErrDir}, {s, example, 3, api.ErrDir},
	} {
		for _, a := range []answer{named(x.s, x.l, x.dir, "a"), unnamed(x.s, x.l, x.dir)} {
			if a != (answer{x.e, true}) {
				t.Error(x.l, x.dir, a, "not", x.e)
			}
		}
	}
	s.same(t, was)
}

// wrong are bytes that no directory has.
func wrong() [][]byte {
	l := [][]byte{
		{0}, make([]byte, 15), make([]byte, 17), make([]byte, 520), slot("a", 3)[:15], append(slot("a", 3), 0),
		slot("", 3), slot("a", 0), slot("a", 17), slot("a", 256), slot("a", 65535), slot("/", 3), slot("a/b", 3), slot("abcdefghijklm/", 3),
		slot("a\x00b", 3), slot("\x00a", 3), slot("a\x00\x00\x00\x00\x00\x00\x00\x00\x00\x00\x00\x00b", 3),
		slices.Concat(slot("a", 3), slot("a", 3)), slices.Concat(slot("a", 3), slot("b", 3), make([]byte, 16), slot("a", 4)),
		slices.Concat(make([]byte, 1600), slot("a", 17)),
	}
	for at := 2; at < 16; at++ {
		b := make([]byte, 16)
		b[at] = 'x'
		l = append(l, b)
	}
	return l
}

func TestBytesThatAreNotRight(t *testing.T) {
	for _, b := range wrong() {
		for _, full := range [][]byte{b, slices.Concat(slot("p", 1), b), slices.Concat(slot("p", 1), slot("q", 2), b)} {
			s := make1(t)
			lay(t, s, full)
			was := s.image()
			for _, a := range []answer{named(s, example, dir, "p"), named(s, example, dir, "z"), unnamed(s, example, dir)} {
				if a != (answer{api.ErrDirent, true}) {
					t.Errorf("%q: %v", full, a)
				}
			}
			s.same(t, was)
		}
	}
	// What is right for more inodes is not so for fewer.
	s := make1(t)
	adds(t, s, "a", 16)
	l := example
	l.Inodes = 15
	if a := unnamed(s, l, dir); a != (answer{api.ErrDirent, true}) {
		t.Error(a)
	}
}

// What inode.Read refuses comes ahead of what its bytes are.
func TestBytesThatCanNotBeRead(t *testing.T) {
	s := make1(t)
	lay(t, s, make([]byte, 20*size+1))
	copy(s.blocks[24], []byte{1, 0, 0, 0}) // the block for numbers names block 1
	was := s.image()
	for _, a := range []answer{named(s, example, dir, "a"), unnamed(s, example, dir)} {
		if a != (answer{api.ErrInode, true}) {
			t.Error(a)
		}
	}
	s.same(t, was)
}

func TestStoreRefuses(t *testing.T) {
	full := slices.Concat(slot("a", 3), slot("b", 4))
	for name, do := range map[string]func(api.Store) (bool, api.Errno){
		"Find": func(s api.Store) (bool, api.Errno) {
			n, e := dirent.Find(s, example, dir, "a")
			return n == 0, e
		},
		"Add": func(s api.Store) (bool, api.Errno) { return true, dirent.Add(s, example, dir, "c", 5) },
		"Remove": func(s api.Store) (bool, api.Errno) {
			n, e := dirent.Remove(s, example, dir, "b")
			return n == 0, e
		},
		"Change": func(s api.Store) (bool, api.Errno) {
			n, e := dirent.Change(s, example, dir, "b", 7)
			return n == 0, e
		},
		"List": func(s api.Store) (bool, api.Errno) {
			l, e := dirent.List(s, example, dir)
			return l == nil, e
		},
		"Empty": func(s api.Store) (bool, api.Errno) {
			ok, e := dirent.Empty(s, example, dir)
			return !ok, e
		},
	} {
		s := make1(t)
		lay(t, s, full)
		s.asked = 0
		if _, e := do(s); e != api.OK {
			t.Error(name, e)
		}
		for left := range s.asked {
			s := make1(t)
			lay(t, s, full)
			was := s.image()
			s.left = left
			if nothing, e := do(s); !nothing || e != refused {
				t.Error(name, "of operation", left, nothing, e)
			}
			if !bytes.Equal(s.image(), was) {
				t.Error(name, "of operation", left, "has changed something")
			}
		}
	}
}
