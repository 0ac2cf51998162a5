package asm_test

import (
	"bytes"
	"fmt"
	"math"
	"slices"
	"strings"
	"testing"

	"parapet/api"
	"parapet/asm"
)

// le is words as bytes.
func le(words ...uint32) []byte {
	var b []byte
	for _, w := range words {
		for range 4 {
			b = append(b, byte(w))
			w /= 256
		}
	}
	return b
}

// word is an instruction's word, put together by sums.
func word(op, a, b, imm int) uint32 {
	return uint32(op + 256*a + 4096*b + 65536*((imm+65536)%65536))
}

// lines is a text of lines.
func lines(l ...string) string { return strings.Join(l, "\n") }

func assembles(t *testing.T, text string, base int, want []byte) {
	t.Helper()
	if b, e, n := asm.Assemble(text, base); e != api.OK || n != 0 || !bytes.Equal(b, want) {
		t.Errorf("%.80q at %d: %.40x %d %d, not %.40x", text, base, b, e, n, want)
	}
}

func refuses(t *testing.T, text string, base int, want api.Errno, line int) {
	t.Helper()
	if b, e, n := asm.Assemble(text, base); len(b) != 0 || e != want || n != line {
		t.Errorf("%.80q at %d: %.40x %d at %d, not %d at %d", text, base, b, e, n, want, line)
	}
}

func labelled(t *testing.T, text string, base int, want ...api.Label) {
	t.Helper()
	if l, e, n := asm.Labels(text, base); e != api.OK || n != 0 || !slices.Equal(l, want) {
		t.Errorf("%.80q at %d: %v %d %d, not %v", text, base, l, e, n, want)
	}
}

func unlabelled(t *testing.T, text string, base int, want api.Errno, line int) {
	t.Helper()
	if l, e, n := asm.Labels(text, base); len(l) != 0 || e != want || n != line {
		t.Errorf("%.80q at %d: %v %d at %d, not %d at %d", text, base, l, e, n, want, line)
	}
}

// P4.1

func TestExample(t *testing.T) {
	text := lines("start: li r1, 5", "loop: addi r1, r1, -1", "bne r1, r0, loop")
	want := le(word(api.OpLi, 1, 0, 5), word(api.OpAddi, 1, 1, -1), word(api.OpBne, 1, 0, -1))
	assembles(t, text, 0, want)
	assembles(t, text+"\n", 65532, want)
	assembles(t, "jal r1, 0x7", 0, le(word(api.OpJal, 1, 0, 7)))
	refuses(t, lines("jal r1, 0x7", ".byte 256"), 0, api.ErrNumber, 1)
}

func TestEveryStatement(t *testing.T) {
	for i, s := range strings.Fields("add sub and or xor shl shr sar mul divu remu slt sltu") {
		assembles(t, s+" r3, r12", 0, le(word(3+i, 3, 12, 0)))
	}
	for s, op := range map[string]int{"lw": api.OpLw, "sw": api.OpSw, "lb": api.OpLb, "sb": api.OpSb, "jalr": api.OpJalr, "cas": api.OpCas} {
		assembles(t, s+" r3, -7(r12)", 0, le(word(op, 3, 12, -7)))
	}
	for s, op := range map[string]int{"beq": api.OpBeq, "bne": api.OpBne, "blt": api.OpBlt, "bltu": api.OpBltu, "addi": api.OpAddi} {
		assembles(t, s+" r3, r12, 0x1f", 0, le(word(op, 3, 12, 31)))
	}
	for s, op := range map[string]int{"li": api.OpLi, "lui": api.OpLui, "jal": api.OpJal} {
		assembles(t, s+" r15, 77", 0, le(word(op, 15, 0, 77)))
	}
	assembles(t, "sys", 0, le(28))
	assembles(t, ".word 0x89abcdef", 0, le(0x89abcdef))
	assembles(t, ".byte 200", 0, []byte{200})
	assembles(t, `.text "abc"`, 0, []byte("abc"))
	assembles(t, ".space 3", 0, make([]byte, 3))
	assembles(t, ".byte 1\n.align", 0, le(1))
}

func TestRegisters(t *testing.T) {
	for n := range 16 {
		assembles(t, fmt.Sprintf("mul r%d, r%d", n, 15-n), 0, le(word(api.OpMul, n, 15-n, 0)))
	}
	for _, r := range []string{"r16", "r01", "r00", "r", "R1", "1", "r-1", "r-0", "r0x1", "r1 0", "rr1", "r1r", "x1", "r99999999999999999999", `"r1"`, ",", "r\u0661"} {
		refuses(t, "sys\nmul r1, "+r, 0, api.ErrLine, 1)
		refuses(t, "sys\nmul "+r+", r1", 0, api.ErrLine, 1)
		refuses(t, "lw r1, 0("+r+")", 0, api.ErrLine, 0)
	}
}

func TestNumbers(t *testing.T) {
	for s, want := range map[string]uint32{
		"0": 0, "1": 1, "10": 10, "4294967295": math.MaxUint32, "-1": math.MaxUint32, "-2147483648": 1 << 31,
		"0x0": 0, "0x00000001": 1, "0xffffffff": math.MaxUint32, "0x9abcdef0": 0x9abcdef0, "0x1234": 0x1234,
	} {
		assembles(t, ".word "+s, 0, le(want))
	}
	for _, s := range []string{
		"00", "01", "-0", "-01", "+1", "--1", "-", "- 1", "4294967296", "9999999999", "99999999999999999999", "-2147483649", "-9999999999", "-99999999999999999999",
		"0x", "0X1", "0xA", "0xg", "0x000000001", "-0x1", "0x-1", "1x", "1_0", "1.0", "a", "0b1", `"1"`, "1 1", "(1)", "\u0661", "1\r", "1\x00", "0x\xff", "1\xff",
	} {
		refuses(t, "sys\n.word "+s, 0, api.ErrLine, 1)
	}
}

// What may stand in each place, up to its edge and one beyond.
func TestBounds(t *testing.T) {
	for _, s := range []string{"li r1, %d", "addi r1, r2, %d", "lw r1, %d(r2)", "sb r1, %d(r2)", "beq r1, r2, %d", "bltu r1, r2, %d", "jal r1, %d", "jalr r1, %d(r2)", "cas r1, %d(r2)"} {
		for _, n := range []int{-32768, 32767} {
			b, e, _ := asm.Assemble(fmt.Sprintf(s, n), 0)
			if e != api.OK || len(b) != 4 || int(int16(uint16(b[2])|uint16(b[3])<<8)) != n {
				t.Error(s, n, b, e)
			}
		}
		for _, n := range []int{-32769, 32768, 65535, 65536, -65536, math.MinInt32, math.MaxUint32} {
			refuses(t, "sys\n"+fmt.Sprintf(s, n), 0, api.ErrNumber, 1)
		}
	}
	for n, imm := range map[string]int{"0": 0, "32767": 32767, "32768": -32768, "65535": -1, "0xfffe": -2} {
		assembles(t, "lui r1, "+n, 0, le(word(api.OpLui, 1, 0, imm)))
	}
	for _, n := range []string{"-1", "-32768", "65536", "0xffffffff"} {
		refuses(t, "lui r1, "+n, 0, api.ErrNumber, 0)
	}
	for n, x := range map[string]byte{"-128": 128, "-1": 255, "0": 0, "255": 255} {
		assembles(t, ".byte "+n, 0, []byte{x})
	}
	for _, n := range []string{"-129", "256", "-2147483648", "4294967295", "0xffffffff"} {
		refuses(t, ".byte "+n, 0, api.ErrNumber, 0)
	}
	assembles(t, ".space 0", 0, nil)
	assembles(t, ".space 65536", 0, make([]byte, 65536))
	refuses(t, ".space -1", 0, api.ErrNumber, 0)
	refuses(t, ".space -2147483648", 0, api.ErrNumber, 0)
}

func TestQuotedTexts(t *testing.T) {
	for s, want := range map[string]string{
		`""`: "", `"a b,c(d):;e"`: "a b,c(d):;e", `"\""`: `"`, `"\\"`: `\`, `"\\\""`: `\"`, `"\\\\"`: `\\`, `"\n\0"`: "\n\x00", `"\\n"`: `\n`,
		"\" \x7f\x80\xff\"": " \x7f\x80\xff", `"été"`: "été",
	} {
		assembles(t, ".text "+s, 0, []byte(want))
		assembles(t, ".text"+s+"; \"", 0, []byte(want))
	}
	for _, s := range []string{
		`"`, `"abc`, `"abc\"`, `"\\\"`, `"a;b`, `"\t"`, `"\x"`, `"\1"`, `"\N"`, `"\ "`, "\"\t\"", "\"\x00\"", "\"\x1f\"", "\"\\\x00\"", "\"\r\"",
		`"a""b"`, `"a" "b"`, `"a"b`, `a"b"`, `""""`, `abc`, `5`, ``, `'a'`, `("a")`, `"a"\`,
	} {
		refuses(t, "sys\n.text "+s, 0, api.ErrLine, 1)
	}
}

func TestLinesOfAnotherForm(t *testing.T) {
	for _, s := range []string{
		"nop", "LI r1, 5", "li", "li r1", "li r1,", "li r1 5", "li r1, 5,", "li r1, 5 6", "li, r1, 5", "li r1,, 5", "li r1: 5", "li (r1), 5", "li 5, r1", "li r1, 5(r2)",
		"add r1, r2, r3", "add r1, 5", "add r1, lab", "addi r1, r2", "addi r1, 5, 5", "addi r1, r2, lab", "addi r1, r2, r3",
		"lw r1, r2", "lw r1, (r2)", "lw r1, 4(r2", "lw r1, 4 r2)", "lw r1, 4", "lw r1, lab(r2)", "lw r1, 4(lab)", "lw r1, 4((r2))", "lw r1 4(r2)",
		"beq r1, lab", "beq r1, r2", "beq r1, 5, lab", "jal lab", "jal r1", "jalr r1, r2", "jalr r1, lab(r2)", "cas r1, r2, r3", "sys 0", "sys r1", "sys,",
		".word", ".word lab", ".word 1, 2", ".byte", ".byte lab", ".byte 1 2", ".text", ".space", ".space lab", ".align 4", ".align,", ".half 1", "word 1", ".Word 1",
		":", ": sys", ":: sys", "1a: sys", "_a: sys", "a-b: sys", "a b: sys", "a: b: sys", "a:: sys", ".a: sys", `"a": sys`, `a ":" sys`, `a":"`, "a", "a,", `"sys"`, `""`, "(", ")", ",", "r1, 5",
		"a\u00e9: sys", "\u00e9: sys", "a\xff: sys", "sys\r", "\x00", "\u00a0sys", "sys \v", "a\x00: sys",
		strings.Repeat("a", 33) + ":", "li r1, " + strings.Repeat("a", 33), "jal r1, 1a", "jal r1, _a", "jal r1, a-b", "jal r1, a b", `jal r1, "a"`,
	} {
		refuses(t, lines("", "sys", s, "nop"), 0, api.ErrLine, 2)
		unlabelled(t, lines("", "sys", s, "nop"), 0, api.ErrLine, 2)
	}
}

func TestEmptyLines(t *testing.T) {
	for _, s := range []string{"", "\n", " \t", ";", "; li r1, \"", " ;;\n\t;\n", "\n\n\n"} {
		assembles(t, s, 0, nil)
		labelled(t, s, 7)
	}
}

func TestInsnsStandAtWords(t *testing.T) {
	sys := le(28)
	for base := range 9 {
		if base%4 == 0 {
			assembles(t, "sys", base, sys)
			continue
		}
		refuses(t, "\nsys", base, api.ErrLine, 1)
		refuses(t, "a: sys", base, api.ErrLine, 0)
		assembles(t, ".align\nsys", base, append(make([]byte, 4-base%4), sys...))
		assembles(t, fmt.Sprintf(".space %d\nsys", 4-base%4), base, append(make([]byte, 4-base%4), sys...))
	}
	refuses(t, ".byte 1\nsys", 0, api.ErrLine, 1)
	assembles(t, ".byte 1\nsys", 3, append([]byte{1}, sys...))
	// Of data nothing is said.
	assembles(t, ".word 1\n.byte 2\n.word 3", 1, append(append(le(1), 2), le(3)...))
}

func TestAlign(t *testing.T) {
	for base := range 9 {
		n := (4 - base%4) % 4
		assembles(t, ".align\n.byte 9", base, append(make([]byte, n), 9))
		assembles(t, ".align\n.align", base, make([]byte, n))
	}
}

func TestBase(t *testing.T) {
	for _, base := range []int{math.MinInt, -4, -1, 65536, 65537, math.MaxInt - 3, math.MaxInt} {
		refuses(t, "sys", base, api.ErrArg, 0)
		refuses(t, "\nnop", base, api.ErrArg, 0)
		refuses(t, strings.Repeat(" ", api.MaxAsm+1), base, api.ErrArg, 0)
		unlabelled(t, "a:", base, api.ErrArg, 0)
	}
	assembles(t, ".byte 1", 65535, []byte{1})
	assembles(t, "li r1, 1", 65532, le(word(api.OpLi, 1, 0, 1)))
	assembles(t, ".space 65536", 65535, make([]byte, 65536))
}

func TestLongTexts(t *testing.T) {
	most := "nop" + strings.Repeat(" ", api.MaxAsm-3)
	refuses(t, "\n"+most[1:], 0, api.ErrLine, 1)
	refuses(t, most+" ", 0, api.ErrLong, 0)
	unlabelled(t, most+" ", 0, api.ErrLong, 0)
	assembles(t, "sys"+most[3:], 0, le(28))
	assembles(t, strings.Repeat("\n", api.MaxAsm), 0, nil)
	labelled(t, strings.Repeat(";", api.MaxAsm), 0)
}

func TestLongPrograms(t *testing.T) {
	full := strings.Repeat("sys\n", api.MaxProgram/4)
	assembles(t, full, 4, bytes.Repeat(le(28), api.MaxProgram/4))
	for _, s := range []string{"sys", ".byte 1", ".word 1", `.text "a"`, ".space 1", "a: .byte 1"} {
		refuses(t, full+s, 4, api.ErrLong, api.MaxProgram/4)
		unlabelled(t, full+s, 4, api.ErrLong, api.MaxProgram/4)
		refuses(t, ".space 65536\n"+s, 4, api.ErrLong, 1)
		// One byte less is filled, but for a word.
		if strings.Contains(s, "sys") || strings.Contains(s, "word") {
			refuses(t, ".space 65533\n"+s, 3, api.ErrLong, 1)
		} else if _, e, _ := asm.Assemble(".space 65535\n"+s, 4); e != api.OK {
			t.Error(s, e)
		}
	}
	assembles(t, full+".space 0\n.text \"\"\n.align\na:\n", 4, bytes.Repeat(le(28), api.MaxProgram/4))
	assembles(t, ".space 65535\n.align", 1, make([]byte, 65535))
	assembles(t, ".space 65534\n.align", 0, make([]byte, 65536))
	refuses(t, ".space 65536\n.align", 1, api.ErrLong, 1)
}

func TestLongSpaces(t *testing.T) {
	for _, n := range []string{"65537", "0x10001", "2147483648", "4294967295"} {
		refuses(t, "\n.space "+n, 0, api.ErrLong, 1)
		unlabelled(t, "\n.space "+n, 0, api.ErrLong, 1)
	}
	refuses(t, ".space 4294967296", 0, api.ErrLine, 0)
	// A number below 0 takes back nothing.
	refuses(t, lines(".space 65536", ".space -1", ".byte 1"), 0, api.ErrLong, 2)
	labelled(t, lines("a: .space -5", "b:"), 9, api.Label{Name: "a", At: 9}, api.Label{Name: "b", At: 9})
}

func TestLabelTwice(t *testing.T) {
	for _, s := range []string{"a:", "a : sys", "a: .word 1", "a:; again"} {
		refuses(t, lines("a: sys", "A:", s, "nop"), 0, api.ErrLabel, 2)
		unlabelled(t, lines("a: sys", s, "nop"), 0, api.ErrLabel, 1)
	}
	// Ahead of it comes a line of another form, behind it one too long.
	refuses(t, lines("a:", "a: nop"), 0, api.ErrLine, 1)
	refuses(t, lines("a: .byte 1", "a: sys"), 0, api.ErrLine, 1)
	refuses(t, lines("a:", "a: .space 70000"), 0, api.ErrLabel, 1)
	assembles(t, lines("a: sys", "A: sys", "a_: sys", "a1: sys"), 0, le(28, 28, 28, 28))
}

func TestLabelsMayBeAnyWord(t *testing.T) {
	most := strings.Repeat("z", 32)
	for _, l := range []string{"a", "Z", "x_", "x9", "li", "sys", "r1", "word", "aZ09_z", most, most[:31] + "_"} {
		assembles(t, lines(l+": sys", "jal r2, "+l, "li r3, "+l), 8, le(28, word(api.OpJal, 2, 0, -1), word(api.OpLi, 3, 0, 8)))
		labelled(t, "sys\n"+l+":", 8, api.Label{Name: l, At: 12})
	}
}

func TestLabelsAsOperands(t *testing.T) {
	for s, op := range map[string]int{"beq r1, r2, ": api.OpBeq, "bne r1, r2, ": api.OpBne, "blt r1, r2, ": api.OpBlt, "bltu r1, r2, ": api.OpBltu} {
		assembles(t, lines(s+"on", s+"here", "here:"+s+"here", "on: sys"), 4,
			le(word(op, 1, 2, 3), word(op, 1, 2, 1), word(op, 1, 2, 0), 28))
	}
	assembles(t, lines("jal r1, e", "a: jal r1, a", "jal r1, a", "e:"), 0, le(word(api.OpJal, 1, 0, 3), word(api.OpJal, 1, 0, 0), word(api.OpJal, 1, 0, -1)))
	assembles(t, lines("li r1, d", "lui r2, d", ".byte 1", "d:"), 100, append(le(word(api.OpLi, 1, 0, 109), word(api.OpLui, 2, 0, 109)), 1))
	// From one end of a program to the other.
	far := api.MaxProgram/4 - 1
	b, e, _ := asm.Assemble(lines("a: jal r1, z", fmt.Sprintf(".space %d", 4*far-4), "z: jal r1, a"), 0)
	if e != api.OK || !bytes.Equal(b[:4], le(word(api.OpJal, 1, 0, far))) || !bytes.Equal(b[4*far:], le(word(api.OpJal, 1, 0, -far))) {
		t.Error("far", e)
	}
}

func TestLabelNowhere(t *testing.T) {
	for _, s := range []string{"li r1, b", "lui r1, b", "beq r1, r2, b", "bne r1, r2, b", "blt r1, r2, b", "bltu r1, r2, b", "jal r1, b", "jal r1, A", "li r1, r2"} {
		refuses(t, lines("a: sys", s, "li r1, 99999"), 0, api.ErrLabel, 1)
		labelled(t, lines("a: sys", s, "li r1, 99999"), 0, api.Label{Name: "a", At: 0})
	}
	// Of two lines at fault the first one counts; a fault of the first going through counts ahead of both.
	refuses(t, lines("a: li r1, 99999", "li r1, b"), 0, api.ErrNumber, 0)
	refuses(t, lines("li r1, b", ".byte 256", "a:", "a:"), 0, api.ErrLabel, 3)
	refuses(t, lines("li r1, b", ".byte 256", "nop"), 0, api.ErrLine, 2)
	refuses(t, lines("li r1, b", ".byte 256", ".space 65536"), 0, api.ErrLong, 2)
}

func TestLabelsTooFar(t *testing.T) {
	pad := func(to int) string { return fmt.Sprintf(".space %d", to-8) }
	at := func(s string, to int) string { return lines(s, "sys", pad(to), "d:") }
	assembles(t, at("li r1, d", 32767), 0, append(le(word(api.OpLi, 1, 0, 32767), 28), make([]byte, 32767-8)...))
	refuses(t, at("li r1, d", 32768), 0, api.ErrNumber, 0)
	refuses(t, "d: li r1, d", 32768, api.ErrNumber, 0)
	assembles(t, "d: li r1, d", 32764, le(word(api.OpLi, 1, 0, 32764)))
	assembles(t, "lui r1, d\n.text \"abc\"\nd:", 65528, append(le(word(api.OpLui, 1, 0, -1)), "abc"...))
	refuses(t, "lui r1, d\n.text \"abcd\"\nd:", 65528, api.ErrNumber, 0)
	refuses(t, "lui r1, d\n.space 65532\nd:", 65532, api.ErrNumber, 0)
	// A label that is half an instruction away.
	for n := 1; n < 9; n++ {
		text := lines("sys", "d: "+fmt.Sprintf(".space %d", n), ".align", "jal r1, d", "bne r1, r2, e", fmt.Sprintf(".space %d", n), "e:")
		if n%4 == 0 {
			assembles(t, text, 4, slices.Concat(le(28), make([]byte, n), le(word(api.OpJal, 1, 0, -n/4), word(api.OpBne, 1, 2, 1+n/4)), make([]byte, n)))
		} else {
			refuses(t, text, 4, api.ErrNumber, 4)
		}
	}
	for _, s := range []string{"beq r1, r2, d", "jal r1, d"} {
		for n := 1; n < 4; n++ {
			refuses(t, lines(fmt.Sprintf(".space %d", n), "d: .align", s), 0, api.ErrNumber, 2)
		}
	}
}

// P4.2

func TestLabels(t *testing.T) {
	text := lines("z:", "; a: nothing", "a: .byte 1", " m :\t.align ; m", "", "b: sys", "li r1, nowhere", ".byte 300", "c:")
	labelled(t, text, 4, api.Label{Name: "z", At: 4}, api.Label{Name: "a", At: 4}, api.Label{Name: "m", At: 5}, api.Label{Name: "b", At: 8}, api.Label{Name: "c", At: 17})
	labelled(t, "", 0)
	labelled(t, "sys", 0)
	labelled(t, ".space 65536\nend:", 65535, api.Label{Name: "end", At: 131071})
}

func TestPrint(t *testing.T) {
	for want, w := range map[string]uint32{
		"li r1, -5": word(api.OpLi, 1, 0, -5), "li r15, 32767": word(api.OpLi, 15, 0, 32767), "li r0, -32768": word(api.OpLi, 0, 0, -32768),
		"lui r1, 65535": word(api.OpLui, 1, 0, -1), "lui r1, 32768": word(api.OpLui, 1, 0, -32768), "lui r1, 5": word(api.OpLui, 1, 0, 5),
		"add r1, r2": word(api.OpAdd, 1, 2, 0), "sub r1, r2": word(api.OpSub, 1, 2, 0), "and r1, r2": word(api.OpAnd, 1, 2, 0), "or r1, r2": word(api.OpOr, 1, 2, 0),
		"xor r1, r2": word(api.OpXor, 1, 2, 0), "shl r1, r2": word(api.OpShl, 1, 2, 0), "shr r1, r2": word(api.OpShr, 1, 2, 0), "sar r1, r2": word(api.OpSar, 1, 2, 0),
		"mul r1, r2": word(api.OpMul, 1, 2, 0), "divu r1, r2": word(api.OpDivu, 1, 2, 0), "remu r1, r2": word(api.OpRemu, 1, 2, 0), "slt r1, r2": word(api.OpSlt, 1, 2, 0),
		"sltu r1, r2": word(api.OpSltu, 1, 2, 0), "addi r3, r14, -7": word(api.OpAddi, 3, 14, -7),
		"lw r1, -4(r2)": word(api.OpLw, 1, 2, -4), "sw r1, 4(r2)": word(api.OpSw, 1, 2, 4), "lb r1, 0(r2)": word(api.OpLb, 1, 2, 0), "sb r1, 9(r2)": word(api.OpSb, 1, 2, 9),
		"beq r1, r2, -1": word(api.OpBeq, 1, 2, -1), "bne r1, r2, 0": word(api.OpBne, 1, 2, 0), "blt r1, r2, 7": word(api.OpBlt, 1, 2, 7), "bltu r1, r2, 7": word(api.OpBltu, 1, 2, 7),
		"jal r1, -2": word(api.OpJal, 1, 0, -2), "jalr r1, 8(r2)": word(api.OpJalr, 1, 2, 8), "cas r1, 8(r2)": word(api.OpCas, 1, 2, 8), "sys": 28,
		".word 0": 0, ".word 29": 29, ".word 4294967295": math.MaxUint32, ".word 2147483648": 1 << 31,
	} {
		if s := asm.Print(w); s != want {
			t.Errorf("%x: %q, not %q", w, s, want)
		}
	}
}

// Bits that a statement does not tell make a word of it.
func TestPrintOfWhatIsNotTold(t *testing.T) {
	plain := func(w uint32) {
		t.Helper()
		if s := asm.Print(w); s != fmt.Sprintf(".word %d", w) {
			t.Errorf("%x: %q", w, s)
		}
	}
	for op := api.OpAdd; op <= api.OpSltu; op++ {
		plain(word(op, 1, 2, 1))
		plain(word(op, 1, 2, -32768))
	}
	for _, op := range []int{api.OpLi, api.OpLui, api.OpJal} {
		plain(word(op, 1, 1, 5))
		plain(word(op, 1, 8, 0))
	}
	plain(word(api.OpSys, 1, 0, 0))
	plain(word(api.OpSys, 0, 8, 0))
	plain(word(api.OpSys, 0, 0, -1))
}

func TestDisassemble(t *testing.T) {
	b := le(word(api.OpLi, 1, 0, 5), 0xffffffff, 28)
	for n, want := range []string{"", ".byte 0\n", ".byte 0\n.byte 128\n", ".byte 0\n.byte 128\n.byte 255\n"} {
		tail := []byte{0, 128, 255}[:n]
		if s := asm.Disassemble(slices.Concat(b, tail)); s != "li r1, 5\n.word 4294967295\nsys\n"+want {
			t.Errorf("%d: %q", n, s)
		}
		if s := asm.Disassemble(tail); s != want {
			t.Errorf("%d: %q", n, s)
		}
	}
	if asm.Disassemble(nil) != "" {
		t.Error("nil")
	}
}

// R3

func TestAnswersAreNewMemory(t *testing.T) {
	text := "a: li r1, 5\nb: .text \"abc\""
	x, _, _ := asm.Assemble(text, 0)
	want := slices.Clone(x)
	for i := range x[:cap(x)] {
		x[:cap(x)][i] = 99
	}
	assembles(t, text, 0, want)
	l, _, _ := asm.Labels(text, 0)
	clear(l[:cap(l)])
	labelled(t, text, 0, api.Label{Name: "a", At: 0}, api.Label{Name: "b", At: 4})
	room := []byte("abcdefgh")
	asm.Disassemble(room[:6])
	if string(room) != "abcdefgh" {
		t.Error("changed", room)
	}
}
