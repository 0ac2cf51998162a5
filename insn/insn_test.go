package insn_test

import (
	"math"
	"testing"

	"parapet/api"
	"parapet/insn"
)

// word is an instruction's word, put together by sums.
func word(op, a, b, imm int) uint32 {
	return uint32(op + 256*a + 4096*b + 65536*((imm+65536)%65536))
}

var imms = []int{0, 1, 2, 4, 255, 256, 32766, 32767, -1, -2, -4, -256, -32767, -32768}

// every hands out all operations with registers and Imms of all kinds.
func every(f func(x api.Insn)) {
	for op := api.OpLi; op <= api.OpSys; op++ {
		for a := range 16 {
			for b := range 16 {
				for _, imm := range imms {
					f(api.Insn{Op: op, A: a, B: b, Imm: imm})
				}
			}
		}
	}
}

// cpu is a processor no two registers of which are the same.
func cpu() api.Cpu {
	c := api.Cpu{PC: 1000}
	for i := range c.R {
		c.R[i] = 0x80000000>>i + uint32(i)
	}
	return c
}

// P3.1

func TestDecode(t *testing.T) {
	every(func(x api.Insn) {
		if y, e := insn.Decode(word(x.Op, x.A, x.B, x.Imm)); y != x || e != api.OK {
			t.Fatal(x, y, e)
		}
	})
}

func TestDecodeOfNone(t *testing.T) {
	for op := range 256 {
		for _, upper := range []uint32{0, 0x100, 0xffffff00, 0x12345600} {
			if x, e := insn.Decode(upper | uint32(op)); (op == 0 || op > 28) != (e == api.ErrInsn) || e != api.OK && x != (api.Insn{}) {
				t.Error(op, upper, x, e)
			}
		}
	}
}

func TestEncode(t *testing.T) {
	if w, e := insn.Encode(api.Insn{Op: api.OpLi, A: 3, Imm: -1}); w != 0xffff0301 || e != api.OK {
		t.Errorf("%x %d", w, e)
	}
	every(func(x api.Insn) {
		if w, e := insn.Encode(x); w != word(x.Op, x.A, x.B, x.Imm) || e != api.OK {
			t.Fatal(x, w, e)
		}
	})
}

func TestEncodeOfNone(t *testing.T) {
	far := []int{math.MinInt, math.MinInt32, math.MaxInt, 1 << 31, 1 << 32, -1 << 32, 1 << 20}
	try := func(x api.Insn) {
		t.Helper()
		if w, e := insn.Encode(x); w != 0 || e != api.ErrInsn {
			t.Error(x, w, e)
		}
	}
	good := api.Insn{Op: api.OpAddi, A: 1, B: 2, Imm: 3}
	for _, n := range append(far, 0, -1, 29, 255, 256, 257, 256+16, -255) {
		x := good
		x.Op = n
		try(x)
	}
	for _, n := range append(far, -1, -16, 16, 17, 255, 256) {
		x := good
		x.A = n
		try(x)
		x = good
		x.B = n
		try(x)
	}
	for _, n := range append(far, 32768, 32769, 65535, 65536, 65539, -32769, -65536) {
		x := good
		x.Imm = n
		try(x)
	}
}

// P3.2

const top = 1 << 31

// Each row: register 1 and register 2, Imm, and what register 1 is behind it.
func TestReckoning(t *testing.T) {
	const all = math.MaxUint32
	for _, c := range []struct {
		op   int
		a, b uint32
		imm  int
		want uint32
	}{
		{api.OpLi, 9, 9, 5, 5}, {api.OpLi, 9, 9, -1, all}, {api.OpLi, 9, 9, -32768, 0xffff8000},
		{api.OpLui, 0x1234abcd, 9, 0x7001, 0x7001abcd}, {api.OpLui, 0x1234abcd, 9, -1, 0xffffabcd}, {api.OpLui, all, 9, 0, 0xffff},
		{api.OpAdd, 3, 4, 9, 7}, {api.OpAdd, all, 2, 9, 1},
		{api.OpSub, 9, 4, 9, 5}, {api.OpSub, 4, 9, 9, all - 4},
		{api.OpAnd, 0b1100, 0b1010, 9, 0b1000}, {api.OpOr, 0b1100, 0b1010, 9, 0b1110}, {api.OpXor, 0b1100, 0b1010, 9, 0b0110},
		{api.OpShl, 3, 4, 9, 48}, {api.OpShl, 3, 31, 9, top}, {api.OpShl, 3, 32, 9, 3}, {api.OpShl, 3, 33 + 64, 9, 6}, {api.OpShl, 1, all, 9, top},
		{api.OpShr, 48, 4, 9, 3}, {api.OpShr, top, 31, 9, 1}, {api.OpShr, top, 32, 9, top}, {api.OpShr, all, 4, 9, all >> 4},
		{api.OpSar, 48, 4, 9, 3}, {api.OpSar, top, 31, 9, all}, {api.OpSar, top, 64, 9, top}, {api.OpSar, all - 15, 3, 9, all - 1}, {api.OpSar, top - 1, 30, 9, 1},
		{api.OpMul, 6, 7, 9, 42}, {api.OpMul, 1 << 16, 1 << 16, 9, 0}, {api.OpMul, all, all, 9, 1},
		{api.OpDivu, 43, 7, 9, 6}, {api.OpDivu, all, 2, 9, top - 1}, {api.OpDivu, 7, all, 9, 0}, {api.OpDivu, 5, 0, 9, all}, {api.OpDivu, 0, 0, 9, all},
		{api.OpRemu, 43, 7, 9, 1}, {api.OpRemu, all, 10, 9, 5}, {api.OpRemu, 7, all, 9, 7}, {api.OpRemu, 5, 0, 9, 5}, {api.OpRemu, 0, 0, 9, 0},
		{api.OpSlt, 1, 2, 9, 1}, {api.OpSlt, 2, 2, 9, 0}, {api.OpSlt, 3, 2, 9, 0}, {api.OpSlt, all, 0, 9, 1}, {api.OpSlt, top - 1, top, 9, 0}, {api.OpSlt, top, top - 1, 9, 1},
		{api.OpSltu, 1, 2, 9, 1}, {api.OpSltu, 2, 2, 9, 0}, {api.OpSltu, 3, 2, 9, 0}, {api.OpSltu, all, 0, 9, 0}, {api.OpSltu, top - 1, top, 9, 1},
		{api.OpAddi, 9, 4, 3, 7}, {api.OpAddi, 9, 4, -5, all}, {api.OpAddi, 9, all, 1, 0},
	} {
		x := cpu()
		x.R[1], x.R[2] = c.a, c.b
		want := x
		want.R[1], want.PC = c.want, 1004
		if y, act := insn.Step(x, word(c.op, 1, 2, c.imm)); y != want || act != (api.Act{Kind: api.ActDone}) {
			t.Errorf("%+v: %x %+v", c, y.R[1], act)
		}
	}
}

func TestWordExample(t *testing.T) {
	if c, _ := insn.Step(api.Cpu{}, 0xffff0301); c.R[3] != 0xffffffff || c.PC != 4 {
		t.Errorf("%+v", c)
	}
}

func TestBranches(t *testing.T) {
	const all = math.MaxUint32
	for _, c := range []struct {
		op   int
		a, b uint32
		goes bool
	}{
		{api.OpBeq, 5, 5, true}, {api.OpBeq, 5, 6, false}, {api.OpBeq, top, 0, false},
		{api.OpBne, 5, 5, false}, {api.OpBne, 5, 6, true}, {api.OpBne, top, 0, true},
		{api.OpBlt, 5, 6, true}, {api.OpBlt, 5, 5, false}, {api.OpBlt, 6, 5, false}, {api.OpBlt, all, 0, true}, {api.OpBlt, 0, all, false},
		{api.OpBltu, 5, 6, true}, {api.OpBltu, 5, 5, false}, {api.OpBltu, 6, 5, false}, {api.OpBltu, all, 0, false}, {api.OpBltu, 0, all, true},
	} {
		for _, imm := range imms {
			x := cpu()
			x.R[1], x.R[2] = c.a, c.b
			want := x
			want.PC = 1004
			if c.goes {
				want.PC = uint32(1000 + 4*imm)
			}
			if y, act := insn.Step(x, word(c.op, 1, 2, imm)); y != want || act != (api.Act{Kind: api.ActDone}) {
				t.Error(c, imm, y.PC, act)
			}
		}
	}
}

func TestJumps(t *testing.T) {
	done := api.Act{Kind: api.ActDone}
	for _, imm := range imms {
		c := cpu()
		want := c
		want.R[7], want.PC = 1004, uint32(1000+4*imm)
		if y, act := insn.Step(c, word(api.OpJal, 7, 3, imm)); y != want || act != done {
			t.Error("jal", imm, y, act)
		}
		want.PC = c.R[3] + uint32(imm)
		if y, act := insn.Step(c, word(api.OpJalr, 7, 3, imm)); y != want || act != done {
			t.Error("jalr", imm, y, act)
		}
		// What register 3 was is read ahead of what it becomes.
		want = c
		want.R[3], want.PC = 1004, c.R[3]+uint32(imm)
		if y, act := insn.Step(c, word(api.OpJalr, 3, 3, imm)); y != want || act != done {
			t.Error("jalr of one register", imm, y, act)
		}
	}
}

func TestPlacesWrap(t *testing.T) {
	c := api.Cpu{PC: math.MaxUint32 - 3}
	if y, _ := insn.Step(c, word(api.OpLi, 0, 0, 0)); y.PC != 0 {
		t.Error("straight on", y.PC)
	}
	if y, _ := insn.Step(c, word(api.OpSys, 0, 0, 0)); y.PC != 0 {
		t.Error("sys", y.PC)
	}
	if y, _ := insn.Step(c, word(api.OpJal, 0, 0, 3)); y.PC != 8 || y.R[0] != 0 {
		t.Error("jal", y.PC, y.R[0])
	}
	if y := insn.Finish(c, api.Act{Kind: api.ActStore, Size: 4}, 0); y.PC != 0 {
		t.Error("Finish", y.PC)
	}
	if y, _ := insn.Step(api.Cpu{}, word(api.OpBeq, 0, 0, -1)); y.PC != math.MaxUint32-3 {
		t.Error("back", y.PC)
	}
}

func TestActs(t *testing.T) {
	c := cpu()
	c.R[2], c.R[5] = 0xfffffff0, 0x89abcdef
	for _, imm := range imms {
		addr := 0xfffffff0 + uint32(imm)
		for op, want := range map[int]api.Act{
			api.OpLw:  {Kind: api.ActLoad, Addr: addr, Size: 4, Reg: 5},
			api.OpLb:  {Kind: api.ActLoad, Addr: addr, Size: 1, Reg: 5},
			api.OpSw:  {Kind: api.ActStore, Addr: addr, Size: 4, Value: 0x89abcdef},
			api.OpSb:  {Kind: api.ActStore, Addr: addr, Size: 1, Value: 0xef},
			api.OpCas: {Kind: api.ActCas, Addr: addr, Size: 4, Old: c.R[15], Value: 0x89abcdef},
		} {
			if y, act := insn.Step(c, word(op, 5, 2, imm)); y != c || act != want {
				t.Errorf("%d %d: %+v", op, imm, act)
			}
		}
	}
	// Register 15 may be what is stored, too.
	if _, act := insn.Step(c, word(api.OpCas, 15, 2, 0)); act.Old != c.R[15] || act.Value != c.R[15] {
		t.Errorf("cas of register 15: %+v", act)
	}
}

func TestCalls(t *testing.T) {
	c := cpu()
	want := c
	want.PC += 4
	for _, w := range []uint32{word(api.OpSys, 0, 0, 0), word(api.OpSys, 3, 4, -5)} {
		if y, act := insn.Step(c, w); y != want || act != (api.Act{Kind: api.ActCall}) {
			t.Error(w, y, act)
		}
	}
}

func TestBadOnes(t *testing.T) {
	c := cpu()
	for _, w := range []uint32{0, 29, 255, 0xffffffff, 0x12345600, 0x1234561d} {
		if y, act := insn.Step(c, w); y != c || act != (api.Act{Kind: api.ActBad}) {
			t.Error(w, y, act)
		}
	}
}

// P3.3

func TestFinishOfLoads(t *testing.T) {
	c := cpu()
	for reg := range 16 {
		want := c
		want.R[reg], want.PC = 0xfedcba98, 1004
		if y := insn.Finish(c, api.Act{Kind: api.ActLoad, Addr: 4, Size: 4, Reg: reg}, 0xfedcba98); y != want {
			t.Error("word", reg, y)
		}
		want.R[reg] = 0x98
		if y := insn.Finish(c, api.Act{Kind: api.ActLoad, Addr: 4, Size: 1, Reg: reg}, 0xfedcba98); y != want {
			t.Error("byte", reg, y)
		}
	}
}

func TestFinishOfStoresAndCas(t *testing.T) {
	c := cpu()
	want := c
	want.PC = 1004
	for _, size := range []int{1, 4} {
		if y := insn.Finish(c, api.Act{Kind: api.ActStore, Addr: 4, Size: size, Value: 7}, 99); y != want {
			t.Error("store", y)
		}
	}
	want.R[15] = 0xfedcba98
	if y := insn.Finish(c, api.Act{Kind: api.ActCas, Addr: 4, Size: 4, Value: 7, Old: 8}, 0xfedcba98); y != want {
		t.Error("cas", y)
	}
}

func TestFinishOfOthers(t *testing.T) {
	c := cpu()
	for _, kind := range []int{math.MinInt, -1, 0, api.ActDone, api.ActCall, api.ActBad, 7, math.MaxInt} {
		if y := insn.Finish(c, api.Act{Kind: kind, Size: 4, Reg: 3}, 99); y != c {
			t.Error(kind, y)
		}
	}
	for _, reg := range []int{math.MinInt, -1, 16, math.MaxInt} {
		if y := insn.Finish(c, api.Act{Kind: api.ActLoad, Size: 4, Reg: reg}, 99); y != c {
			t.Error("no register", reg, y)
		}
	}
}

// A load and a Cas, from the step to the answer.
func TestStepAndFinish(t *testing.T) {
	c := cpu()
	for op, at := range map[int]int{api.OpLw: 9, api.OpLb: 9, api.OpCas: 15} {
		want := c
		want.R[at], want.PC = 0x42, 1004
		y, act := insn.Step(c, word(op, 9, 2, 8))
		if y = insn.Finish(y, act, 0x42); y != want {
			t.Error(op, y)
		}
	}
}

// P3.4

func TestThereAndBack(t *testing.T) {
	every(func(x api.Insn) {
		w, _ := insn.Encode(x)
		if y, e := insn.Decode(w); y != x || e != api.OK {
			t.Fatal(x, y, e)
		}
	})
	r := dice(1)
	for range 200000 {
		w := r.word()&^0xff | uint32(1+r.below(28))
		x, e := insn.Decode(w)
		if e != api.OK {
			t.Fatal(w, e)
		}
		if y, e := insn.Encode(x); y != w || e != api.OK {
			t.Fatal(w, x, y, e)
		}
	}
}
