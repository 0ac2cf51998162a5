package asm

import (
	"strconv"

	"parapet/api"
	"parapet/insn"
)

// Print is a word's statement.
func Print(w uint32) string {
	return string(appendPrint(nil, w))
}

// Disassemble is the text of bytes, a line for each word and for each byte behind the last one.
func Disassemble(b []byte) string {
	var out []byte
	for len(b) >= wordSize {
		w := uint32(b[0]) | uint32(b[1])<<8 | uint32(b[2])<<16 | uint32(b[3])<<24
		out = append(appendPrint(out, w), '\n')
		b = b[wordSize:]
	}
	for _, x := range b {
		out = append(appendDirective(out, dirByte, uint32(x)), '\n')
	}
	return string(out)
}

func appendPrint(out []byte, w uint32) []byte {
	x, e := insn.Decode(w)
	if e != api.OK || x != told(x) {
		return appendDirective(out, dirWord, w)
	}
	f := table[x.Op]
	out = append(out, f.word...)
	if f.operands != "" {
		out = append(out, ' ')
	}
	for _, kind := range f.operands {
		switch kind {
		case registerA:
			out = appendRegister(out, x.A)
		case registerB:
			out = appendRegister(out, x.B)
		case number, target:
			out = strconv.AppendInt(out, int64(shown(x)), 10)
		case ',':
			out = append(out, ", "...)
		default:
			out = append(out, byte(kind))
		}
	}
	return out
}

// told is what a statement can tell of an instruction: what its form does not name is 0.
func told(x api.Insn) api.Insn {
	t := api.Insn{Op: x.Op}
	for _, kind := range table[x.Op].operands {
		switch kind {
		case registerA:
			t.A = x.A
		case registerB:
			t.B = x.B
		case number, target:
			t.Imm = x.Imm
		}
	}
	return t
}

// shown is an instruction's Imm as its statement writes it.
func shown(x api.Insn) int {
	if x.Op == api.OpLui {
		return int(uint16(x.Imm))
	}
	return x.Imm
}

func appendRegister(out []byte, n int) []byte {
	return strconv.AppendInt(append(out, 'r'), int64(n), 10)
}

func appendDirective(out []byte, op int, n uint32) []byte {
	out = append(append(out, table[op].word...), ' ')
	return strconv.AppendUint(out, uint64(n), 10)
}
