package call_test

import (
	"math"
	"slices"
	"strconv"
	"testing"

	"parapet/api"
	"parapet/call"
)

// calls is the table of calls, with the bytes of what each may make, reckoned by hand.
var calls = []struct {
	name  string
	count int
	kinds []int
	bound int
}{
	{"exit", 1, nil, 0},
	{"fork", 0, []int{1, 2, 3, 4, 4, 4, 4, 4, 4, 4, 4, 4, 4, 4, 4, 4, 4, 4, 4}, 960},
	{"wait", 1, []int{9}, 32},
	{"kill", 1, nil, 0},
	{"getpid", 0, nil, 0},
	{"spawn", 3, []int{2}, 128},
	{"join", 1, []int{9}, 32},
	{"texit", 1, nil, 0},
	{"fwait", 2, []int{9}, 32},
	{"fwake", 2, nil, 0},
	{"mmap", 1, []int{4}, 32},
	{"munmap", 2, []int{4}, 32},
	{"open", 2, []int{5, 7, 7, 10}, 320},
	{"close", 1, nil, 0},
	{"read", 3, []int{9}, 32},
	{"write", 3, []int{9}, 32},
	{"dup", 1, nil, 0},
	{"pipe", 1, []int{5, 5, 6}, 704},
	{"mkdir", 1, []int{7, 7, 10}, 256},
	{"unlink", 1, []int{7, 7}, 128},
	{"link", 2, []int{7, 7, 7, 7}, 256},
	{"rename", 2, []int{7, 7, 7, 7}, 256},
	{"size", 1, nil, 0},
	{"sync", 0, []int{8, 8, 8, 8}, 2304},
	{"exec", 1, []int{3, 4, 4, 4, 4, 4, 4, 4, 4, 4, 4, 4, 4, 4, 4, 4, 4, 7, 7}, 704},
	{"yield", 0, nil, 0},
	{"seek", 2, nil, 0},
	{"gettid", 0, nil, 0},
	{"ticks", 0, nil, 0},
	{"poll", 2, []int{9}, 32},
}

// none is numbers of no call.
var none = []int{0, -1, 31, 32, 99, 1 << 31, 1<<32 + 1, math.MinInt, math.MaxInt}

// P26.1

func TestCalls(t *testing.T) {
	for i, x := range calls {
		n := i + 1
		if got := call.Name(n); got != x.name {
			t.Errorf("Name(%d): %q", n, got)
		}
		if got, ok := call.Number(x.name); got != n || !ok {
			t.Errorf("Number(%q): %d %v", x.name, got, ok)
		}
		if got := call.Count(n); got != x.count {
			t.Errorf("Count(%d): %d", n, got)
		}
		if got := call.Kinds(n); !slices.Equal(got, x.kinds) {
			t.Errorf("Kinds(%d): %v", n, got)
		}
		if got := call.Bound(n); got != x.bound {
			t.Errorf("Bound(%d): %d", n, got)
		}
	}
	if n := len(calls); n != api.CallPoll {
		t.Error("calls", n)
	}
	if got := call.Most(); got != 2304 {
		t.Error("Most", got)
	}
}

// The calls have the numbers that their constants have.
func TestConstants(t *testing.T) {
	for name, n := range map[string]int{
		"exit": api.CallExit, "fork": api.CallFork, "wait": api.CallWait, "kill": api.CallKill, "getpid": api.CallGetpid, "spawn": api.CallSpawn, "join": api.CallJoin, "texit": api.CallTexit,
		"fwait": api.CallFwait, "fwake": api.CallFwake, "mmap": api.CallMmap, "munmap": api.CallMunmap, "open": api.CallOpen, "close": api.CallClose, "read": api.CallRead, "write": api.CallWrite,
		"dup": api.CallDup, "pipe": api.CallPipe, "mkdir": api.CallMkdir, "unlink": api.CallUnlink, "link": api.CallLink, "rename": api.CallRename, "size": api.CallSize, "sync": api.CallSync,
		"exec": api.CallExec, "yield": api.CallYield, "seek": api.CallSeek, "gettid": api.CallGettid, "ticks": api.CallTicks, "poll": api.CallPoll,
	} {
		if got, ok := call.Number(name); got != n || !ok {
			t.Error(name, got, ok)
		}
	}
}

func TestNoCalls(t *testing.T) {
	for _, n := range none {
		if call.Name(n) != "" || call.Count(n) != 0 || len(call.Kinds(n)) != 0 || call.Bound(n) != 0 {
			t.Error("a call", n)
		}
	}
	for _, s := range []string{"", "Exit", "EXIT", "exi", "exit ", " exit", "exits", "1", "lseek", "exit\x00"} {
		if n, ok := call.Number(s); n != 0 || ok {
			t.Errorf("Number(%q): %d %v", s, n, ok)
		}
	}
}

// What is answered is new memory.
func TestKindsAreNew(t *testing.T) {
	l := call.Kinds(api.CallFork)
	clear(l[:cap(l)])
	clear(call.Kinds(api.CallOpen))
	if !slices.Equal(call.Kinds(api.CallFork), calls[1].kinds) || !slices.Equal(call.Kinds(api.CallOpen), calls[12].kinds) {
		t.Error("Kinds", call.Kinds(api.CallFork), call.Kinds(api.CallOpen))
	}
}

// P26.2

func TestDecode(t *testing.T) {
	for _, x := range []struct {
		reg    uint32
		number int
		e      api.Errno
	}{
		{1, 1, api.OK}, {2, 2, api.OK}, {17, 17, api.OK}, {30, 30, api.OK},
		{0, 0, api.ErrCall}, {31, 31, api.ErrCall}, {1 << 20, 1 << 20, api.ErrCall}, {1<<31 - 1, 1<<31 - 1, api.ErrCall},
		{1 << 31, 0, api.ErrCall}, {1<<31 + 5, 0, api.ErrCall}, {1<<32 - 1, 0, api.ErrCall},
	} {
		c := api.Cpu{PC: 77}
		for i := range c.R {
			c.R[i] = 0xfffffff0 + uint32(i)
		}
		c.R[1] = x.reg
		want := api.Trap{Number: x.number, Args: [4]uint32{0xfffffff2, 0xfffffff3, 0xfffffff4, 0xfffffff5}}
		if got, e := call.Decode(c); got != want || e != x.e {
			t.Error("Decode", x.reg, got, e)
		}
	}
	if got, e := call.Decode(api.Cpu{}); got != (api.Trap{}) || e != api.ErrCall {
		t.Error("Decode of zeros", got, e)
	}
}

// P26.3

func TestResult(t *testing.T) {
	for _, x := range []struct {
		value, errno int
		want         uint32
	}{
		{0, 0, 0}, {7, 0, 7}, {1<<31 - 1, 0, 1<<31 - 1}, {1<<32 - 1, 0, 1<<32 - 1}, {1 << 32, 0, 0}, {1<<40 + 5, 0, 5}, {-1, 0, 0xffffffff}, {math.MinInt, 0, 0}, {math.MaxInt, 0, 0xffffffff},
		{0, 2, 0xfffffffe}, {7, 2, 0xfffffffe}, {0, 133, 0xffffff7b}, {0, 134, 0xffffff7a}, {5, -3, 3}, {0, 1 << 32, 0}, {9, math.MinInt, 0}, {9, math.MaxInt, 1},
	} {
		if got := call.Result(x.value, x.errno); got != x.want {
			t.Errorf("Result(%d, %d): %x", x.value, x.errno, got)
		}
	}
}

func TestTold(t *testing.T) {
	for _, x := range []struct {
		r            uint32
		value, errno int
	}{
		{0, 0, 0}, {1, 1, 0}, {133, 133, 0}, {1<<31 - 1, 1<<31 - 1, 0}, {1 << 31, 1 << 31, 0}, {0xffffff00, 0xffffff00, 0},
		{0xffffff7a, 0xffffff7a, 0}, {0xffffff7b, 0, 133}, {0xffffff7c, 0, 132}, {0xfffffffe, 0, 2}, {0xffffffff, 0, 1},
	} {
		if value, errno := call.Told(x.r); value != x.value || errno != x.errno {
			t.Errorf("Told(%x): %d %d", x.r, value, errno)
		}
	}
}

// P26.4

func TestErrno(t *testing.T) {
	told := map[api.Errno]int{
		0: 0, 4: 2, 240: 3, 241: 3, 230: 8, 220: 9, 221: 9, 2: 12, 51: 14, 5: 16, 181: 17, 191: 20, 200: 21, 173: 27, 172: 28, 201: 31, 210: 32, 3: 36, 260: 38, 202: 39, 211: 11,
	}
	for e := api.Errno(-300); e < 600; e++ {
		want, ok := told[e]
		if !ok {
			want = 22
		}
		if got := call.Errno(e); got != want {
			t.Errorf("Errno(%d): %d, not %d", e, got, want)
		}
	}
	for _, e := range []api.Errno{math.MinInt, math.MaxInt, 1 << 32, 1<<32 + 4} {
		if got := call.Errno(e); got != 22 {
			t.Error("Errno", e, got)
		}
	}
}

// letters is the E* that there are.
var letters = map[int]string{
	2: "ENOENT", 3: "ESRCH", 8: "ENOEXEC", 9: "EBADF", 10: "ECHILD", 11: "EAGAIN", 12: "ENOMEM", 14: "EFAULT", 16: "EBUSY", 17: "EEXIST", 20: "ENOTDIR", 21: "EISDIR",
	22: "EINVAL", 23: "ENFILE", 24: "EMFILE", 27: "EFBIG", 28: "ENOSPC", 31: "EMLINK", 32: "EPIPE", 36: "ENAMETOOLONG", 38: "ENOSYS", 39: "ENOTEMPTY",
}

func TestWord(t *testing.T) {
	for n := -200; n < 300; n++ {
		if got := call.Word(n); got != letters[n] {
			t.Errorf("Word(%d): %q", n, got)
		}
	}
	for _, n := range []int{math.MinInt, math.MaxInt, 1<<32 + 2} {
		if got := call.Word(n); got != "" {
			t.Errorf("Word(%d): %q", n, got)
		}
	}
}

// P26.5

func TestThereAndBack(t *testing.T) {
	for n := range letters {
		for _, x := range []int{0, 5, -1, math.MaxInt} {
			if value, errno := call.Told(call.Result(x, n)); value != 0 || errno != n {
				t.Error("errno", n, value, errno)
			}
		}
	}
	for i := range 1 << 16 {
		for _, n := range []int{i, 1<<31 - 1 - i, i * 32749 % (1 << 31)} {
			if value, errno := call.Told(call.Result(n, 0)); value != n || errno != 0 {
				t.Error("value", n, value, errno)
			}
		}
	}
	// Whatever an error is, its errno has letters, but of OK.
	for e := range api.Errno(300) {
		if s := call.Word(call.Errno(e)); (s == "") != (e == api.OK) {
			t.Error("the letters of", strconv.Itoa(int(e)), s)
		}
	}
}
