package asm

import "parapet/api"

// The letters of a form's operands; any other byte there stands for itself, as a token.
const (
	registerA = 'a'
	registerB = 'b'
	number    = 'n'
	target    = 'l' // a number, or a label
	quoted    = 't'
)

// The statements that are no instructions, numbered behind the operations.
const (
	dirWord = api.OpSys + 1 + iota
	dirByte
	dirText
	dirSpace
	dirAlign
)

// form is a statement's word, and its operands, a byte for each token.
type form struct {
	word     string
	operands string
}

// table is the forms by their operations.
var table = [...]form{
	api.OpLi:   {"li", "a,l"},
	api.OpLui:  {"lui", "a,l"},
	api.OpAdd:  {"add", "a,b"},
	api.OpSub:  {"sub", "a,b"},
	api.OpAnd:  {"and", "a,b"},
	api.OpOr:   {"or", "a,b"},
	api.OpXor:  {"xor", "a,b"},
	api.OpShl:  {"shl", "a,b"},
	api.OpShr:  {"shr", "a,b"},
	api.OpSar:  {"sar", "a,b"},
	api.OpMul:  {"mul", "a,b"},
	api.OpDivu: {"divu", "a,b"},
	api.OpRemu: {"remu", "a,b"},
	api.OpSlt:  {"slt", "a,b"},
	api.OpSltu: {"sltu", "a,b"},
	api.OpAddi: {"addi", "a,b,n"},
	api.OpLw:   {"lw", "a,n(b)"},
	api.OpSw:   {"sw", "a,n(b)"},
	api.OpLb:   {"lb", "a,n(b)"},
	api.OpSb:   {"sb", "a,n(b)"},
	api.OpBeq:  {"beq", "a,b,l"},
	api.OpBne:  {"bne", "a,b,l"},
	api.OpBlt:  {"blt", "a,b,l"},
	api.OpBltu: {"bltu", "a,b,l"},
	api.OpJal:  {"jal", "a,l"},
	api.OpJalr: {"jalr", "a,n(b)"},
	api.OpCas:  {"cas", "a,n(b)"},
	api.OpSys:  {"sys", ""},
	dirWord:    {".word", "n"},
	dirByte:    {".byte", "n"},
	dirText:    {".text", "t"},
	dirSpace:   {".space", "n"},
	dirAlign:   {".align", ""},
}

// forms is the operations by the words of their statements.
func forms() map[string]int {
	m := make(map[string]int, len(table))
	for op, f := range table {
		if f.word != "" {
			m[f.word] = op
		}
	}
	return m
}

// statement is a line's statement, and where it stands.
type statement struct {
	line  int
	at    int
	op    int
	a, b  int
	n     int64
	label string // what N names, if it is no number
	text  string // a quoted text's bytes
}

// isInsn tells whether a statement is an instruction.
func (s *statement) isInsn() bool {
	return s.op >= api.OpLi && s.op <= api.OpSys
}

// read takes in a statement's tokens, and tells whether they are of a form.
func (s *statement) read(tokens []string, ops map[string]int) bool {
	op, ok := ops[tokens[0]]
	if !ok {
		return false
	}
	operands := table[op].operands
	if len(tokens) != 1+len(operands) {
		return false
	}
	s.op = op
	for i, kind := range operands {
		if !s.take(kind, tokens[1+i]) {
			return false
		}
	}
	return true
}

// take takes in one token of a kind, and tells whether it is of it.
func (s *statement) take(kind rune, token string) bool {
	var ok bool
	switch kind {
	case registerA:
		s.a, ok = readRegister(token)
	case registerB:
		s.b, ok = readRegister(token)
	case target:
		if isLabel(token) {
			s.label = token
			return true
		}
		s.n, ok = readNumber(token)
	case number:
		s.n, ok = readNumber(token)
	case quoted:
		s.text, ok = readQuoted(token)
	default:
		ok = token == string(kind)
	}
	return ok
}

// size is how many bytes a statement has; those of a number below 0 are none.
func (s *statement) size() int64 {
	switch s.op {
	case dirByte:
		return 1
	case dirText:
		return int64(len(s.text))
	case dirSpace:
		return max(s.n, 0)
	case dirAlign:
		return int64(-s.at & (wordSize - 1))
	}
	return wordSize
}
