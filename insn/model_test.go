package insn_test

import (
	"testing"

	"parapet/api"
	"parapet/insn"
)

// dice are numbers that are the same in each run.
type dice uint64

func (d *dice) word() uint32 {
	*d = *d*6364136223846793005 + 1442695040888963407
	return uint32(uint64(*d) >> 32)
}

func (d *dice) below(n int) int {
	return int(d.word() % uint32(n))
}

// edgy is a word that is often near an edge.
func (d *dice) edgy() uint32 {
	switch d.below(3) {
	case 0:
		return uint32(d.below(5) - 2)
	case 1:
		return uint32(1<<31 + d.below(5) - 2)
	}
	return d.word()
}

// signed is s(x), by a difference.
func signed(x int64) int64 {
	if x >= 1<<31 {
		return x - 1<<32
	}
	return x
}

// wrap is the word that a sum or a product is, by its rest.
func wrap(x int64) uint32 {
	const words = 1 << 32
	return uint32((x%words + words) % words)
}

// bits puts a word together bit by bit.
func bits(f func(i int64) int64) int64 {
	x := int64(0)
	for i := range int64(32) {
		x += f(i) << i
	}
	return x
}

// reckoned is register a behind an instruction that reckons, in numbers that do not wrap; false: it is no such one.
func reckoned(op int, a, b, i int64) (int64, bool) {
	of := func(x, i int64) int64 {
		if i < 0 || i > 31 {
			return 0
		}
		return x / (1 << i) % 2
	}
	yes := func(ok bool) (int64, bool) {
		if ok {
			return 1, true
		}
		return 0, true
	}
	switch op {
	case api.OpLi:
		return i, true
	case api.OpLui:
		return a%65536 + i*65536, true
	case api.OpAdd:
		return a + b, true
	case api.OpSub:
		return a - b, true
	case api.OpAnd:
		return bits(func(i int64) int64 { return of(a, i) * of(b, i) }), true
	case api.OpOr:
		return bits(func(i int64) int64 { return max(of(a, i), of(b, i)) }), true
	case api.OpXor:
		return bits(func(i int64) int64 { return (of(a, i) + of(b, i)) % 2 }), true
	case api.OpShl:
		return bits(func(i int64) int64 { return of(a, i-b%32) }), true
	case api.OpShr:
		return bits(func(i int64) int64 { return of(a, i+b%32) }), true
	case api.OpSar:
		return bits(func(i int64) int64 { return of(a, min(i+b%32, 31)) }), true
	case api.OpMul: // by halves of B, since the product may be more than 2^63
		return a*(b%65536) + int64(wrap(a*(b/65536)))*65536, true
	case api.OpDivu:
		if b == 0 {
			return 1<<32 - 1, true
		}
		return a / b, true
	case api.OpRemu:
		if b == 0 {
			return a, true
		}
		return a % b, true
	case api.OpSlt:
		return yes(signed(a) < signed(b))
	case api.OpSltu:
		return yes(a < b)
	case api.OpAddi:
		return b + i, true
	}
	return 0, false
}

// turned tells whether a branch is taken; false: it is no branch.
func turned(op int, a, b int64) (bool, bool) {
	switch op {
	case api.OpBeq:
		return a == b, true
	case api.OpBne:
		return a != b, true
	case api.OpBlt:
		return signed(a) < signed(b), true
	case api.OpBltu:
		return a < b, true
	}
	return false, false
}

// stepped is a step as the chapter's table tells it.
func stepped(c api.Cpu, op, ra, rb int, imm int64) (api.Cpu, api.Act) {
	a, b, pc := int64(c.R[ra]), int64(c.R[rb]), int64(c.PC)
	addr := wrap(b + imm)
	switch op {
	case api.OpLw:
		return c, api.Act{Kind: api.ActLoad, Addr: addr, Size: 4, Reg: ra}
	case api.OpLb:
		return c, api.Act{Kind: api.ActLoad, Addr: addr, Size: 1, Reg: ra}
	case api.OpSw:
		return c, api.Act{Kind: api.ActStore, Addr: addr, Size: 4, Value: c.R[ra]}
	case api.OpSb:
		return c, api.Act{Kind: api.ActStore, Addr: addr, Size: 1, Value: c.R[ra] % 256}
	case api.OpCas:
		return c, api.Act{Kind: api.ActCas, Addr: addr, Size: 4, Old: c.R[15], Value: c.R[ra]}
	case api.OpSys:
		c.PC = wrap(pc + 4)
		return c, api.Act{Kind: api.ActCall}
	}
	c.PC = wrap(pc + 4)
	if x, ok := reckoned(op, a, b, imm); ok {
		c.R[ra] = wrap(x)
	} else if taken, ok := turned(op, a, b); ok && taken {
		c.PC = wrap(pc + 4*imm)
	} else if !ok {
		c.R[ra] = c.PC
		c.PC = addr
		if op == api.OpJal {
			c.PC = wrap(pc + 4*imm)
		}
	}
	return c, api.Act{Kind: api.ActDone}
}

// P3.2, P3.3, P3.5: whatever the registers are, a step is what the table tells, and changes no more than it may.
func TestAgainstModel(t *testing.T) {
	r := dice(7)
	for range 300000 {
		c := api.Cpu{PC: r.edgy()}
		for i := range c.R {
			c.R[i] = r.edgy()
		}
		op, a, b, imm := 1+r.below(28), r.below(16), r.below(16), r.below(65536)-32768
		want, wantAct := stepped(c, op, a, b, int64(imm))
		got, act := insn.Step(c, word(op, a, b, imm))
		if got != want || act != wantAct {
			t.Fatalf("%d %d %d %d of %x: %x %+v, not %x %+v", op, a, b, imm, c, got, act, want, wantAct)
		}
		end := insn.Finish(got, act, r.edgy())
		for i := range c.R {
			if end.R[i] != c.R[i] && i != a && (i != 15 || op != api.OpCas) {
				t.Fatal("register", i, "has changed in", op, a, b)
			}
		}
	}
}
