package asm_test

import (
	"bytes"
	"math/big"
	"regexp"
	"slices"
	"strconv"
	"strings"
	"testing"

	"parapet/api"
	"parapet/asm"
)

// dice are numbers that are the same in each run.
type dice uint64

func (d *dice) below(n int) int {
	*d = *d*6364136223846793005 + 1442695040888963407
	return int(uint64(*d)>>33) % n
}

func (d *dice) word() uint32 { return uint32(d.below(1<<16))<<16 | uint32(d.below(1<<16)) }

func (d *dice) of(l ...string) string { return l[d.below(len(l))] }

// The model reads a line by patterns: its tokens, parted by a byte 1 each, and a pattern for each kind of statement.
const (
	reg   = `\x01r([0-9]|1[0-5])`
	num   = `\x01(0|-?[1-9][0-9]*|0x[0-9a-f]{1,8})`
	place = `\x01(0|-?[1-9][0-9]*|0x[0-9a-f]{1,8}|[A-Za-z][A-Za-z0-9_]{0,31})`
	comma = "\x01,"
	chars = "\x01" + `("(?:[^"\\\x00-\x1f]|\\["\\n0])*")`
)

var (
	token = regexp.MustCompile(`^(?:[ \t]+|;.*|[,():]|"(?:[^"\\]|\\.)*"|[^ \t,():";]+)`)
	label = regexp.MustCompile("^\x01([A-Za-z][A-Za-z0-9_]{0,31})\x01:(.*)$")
	kinds = []struct {
		pattern *regexp.Regexp
		groups  string // what the word's groups behind the first one are
	}{
		{whole(`(li|lui|jal)` + reg + comma + place), "an"},
		{whole(`(add|sub|and|or|xor|shl|shr|sar|mul|divu|remu|slt|sltu)` + reg + comma + reg), "ab"},
		{whole(`(addi)` + reg + comma + reg + comma + num), "abn"},
		{whole(`(beq|bne|blt|bltu)` + reg + comma + reg + comma + place), "abn"},
		{whole(`(lw|sw|lb|sb|jalr|cas)` + reg + comma + num + "\x01\\(" + reg + "\x01\\)"), "anb"},
		{whole(`(\.word|\.byte|\.space)` + num), "n"},
		{whole(`(\.text)` + chars), "t"},
		{whole(`(sys|\.align)`), ""},
	}
	words = strings.Fields("- li lui add sub and or xor shl shr sar mul divu remu slt sltu addi lw sw lb sb beq bne blt bltu jal jalr cas sys")
)

func whole(s string) *regexp.Regexp { return regexp.MustCompile("^\x01" + s + "$") }

// said is a statement as the model has it.
type said struct {
	word, n, t string
	a, b       int
	at         int
	line       int
}

func isName(s string) bool { return s != "" && s[0] != '-' && (s[0] < '0' || s[0] > '9') }

// value is a number's; false: it is beyond what a number may be.
func value(s string) (int64, bool) {
	x, _ := new(big.Int).SetString(s, 0)
	return x.Int64(), x.IsInt64() && x.Int64() < 1<<32 && x.Int64() >= -1<<31
}

// tokens is a line's tokens, a byte 1 ahead of each; false: there are none that it could be.
func tokens(line string) (string, bool) {
	var out strings.Builder
	for line != "" {
		s := token.FindString(line)
		if s == "" || strings.Contains(s, "\x01") {
			return "", false
		}
		if c := s[0]; c != ' ' && c != '\t' && c != ';' {
			out.WriteString("\x01" + s)
		}
		line = line[len(s):]
	}
	return out.String(), true
}

func read(s string) (said, bool) {
	for _, k := range kinds {
		m := k.pattern.FindStringSubmatch(s)
		if m == nil {
			continue
		}
		x := said{word: m[1]}
		for i, g := range k.groups {
			text := m[2+i]
			switch g {
			case 'a':
				x.a, _ = strconv.Atoi(text)
			case 'b':
				x.b, _ = strconv.Atoi(text)
			case 'n':
				x.n = text
				if isName(text) {
					break
				}
				if _, ok := value(text); !ok {
					return x, false
				}
			case 't':
				x.t = strings.NewReplacer(`\\`, `\`, `\"`, `"`, `\n`, "\n", `\0`, "\x00").Replace(text[1 : len(text)-1])
			}
		}
		return x, true
	}
	return said{}, false
}

func (x said) size() int64 {
	n := int64(4)
	switch x.word {
	case ".byte":
		n = 1
	case ".text":
		n = int64(len(x.t))
	case ".space":
		n, _ = value(x.n)
		n = max(n, 0)
	case ".align":
		for n = 0; (int64(x.at)+n)%4 != 0; {
			n++
		}
	}
	return n
}

// first is the first going through the lines.
func first(text string, base int) ([]said, []api.Label, api.Errno, int) {
	var all []said
	var labels []api.Label
	at := base
	for i, line := range strings.Split(text, "\n") {
		s, ok := tokens(line)
		if !ok {
			return nil, nil, api.ErrLine, i
		}
		name := ""
		if m := label.FindStringSubmatch(s); m != nil {
			name, s = m[1], m[2]
		}
		x := said{word: ".space", n: "0"}
		if s != "" {
			if x, ok = read(s); !ok || x.word[0] != '.' && at%4 != 0 {
				return nil, nil, api.ErrLine, i
			}
		}
		x.at, x.line = at, i
		if slices.ContainsFunc(labels, func(l api.Label) bool { return l.Name == name }) {
			return nil, nil, api.ErrLabel, i
		}
		if name != "" {
			labels = append(labels, api.Label{Name: name, At: at})
		}
		if int64(at-base)+x.size() > api.MaxProgram {
			return nil, nil, api.ErrLong, i
		}
		at += int(x.size())
		all = append(all, x)
	}
	return all, labels, api.OK, 0
}

// bytes is a statement's, in the second going.
func (x said) bytes(labels []api.Label) ([]byte, api.Errno) {
	n := int64(0)
	if isName(x.n) {
		i := slices.IndexFunc(labels, func(l api.Label) bool { return l.Name == x.n })
		if i < 0 {
			return nil, api.ErrLabel
		}
		n = int64(labels[i].At)
		if x.word != "li" && x.word != "lui" {
			if (n+131072-int64(x.at))%4 != 0 {
				return nil, api.ErrNumber
			}
			n = (n+131072-int64(x.at))/4 - 32768
		}
	} else if x.n != "" {
		n, _ = value(x.n)
	}
	switch x.word {
	case ".word":
		return le(uint32(n)), api.OK
	case ".byte":
		if n < -128 || n > 255 {
			return nil, api.ErrNumber
		}
		return []byte{byte(n)}, api.OK
	case ".text":
		return []byte(x.t), api.OK
	case ".space", ".align":
		if n < 0 {
			return nil, api.ErrNumber
		}
		return make([]byte, x.size()), api.OK
	case "lui":
		if n < 0 || n > 65535 {
			return nil, api.ErrNumber
		}
	default:
		if n < -32768 || n > 32767 {
			return nil, api.ErrNumber
		}
	}
	return le(uint32(slices.Index(words, x.word) + 256*x.a + 4096*x.b + 65536*int((n+65536)%65536))), api.OK
}

// agrees holds the program against the model for a text.
func agrees(t *testing.T, text string, base int) api.Errno {
	t.Helper()
	all, labels, want, line := first(text, base)
	l, e, n := asm.Labels(text, base)
	if e != want || n != line || !slices.Equal(l, labels) {
		t.Fatalf("Labels of %q at %d: %v %d at %d, not %v %d at %d", text, base, l, e, n, labels, want, line)
	}
	var out []byte
	for _, x := range all {
		b, e := x.bytes(labels)
		if e != api.OK {
			want, line, out = e, x.line, nil
			break
		}
		out = append(out, b...)
	}
	b, e, n := asm.Assemble(text, base)
	if e != want || n != line || !bytes.Equal(b, out) {
		t.Fatalf("%q at %d: %.80x %d at %d, not %.80x %d at %d", text, base, b, e, n, out, want, line)
	}
	return e
}

// name is a label, of few.
func (d *dice) name() string { return d.of("a", "b", "loop", "r1", "li", "x_1", "end") }

func (d *dice) register() string {
	return d.of("r0", "r1", "r2", "r9", "r10", "r15", "r7", d.of("r3", "r16", "a", "5"))
}

func (d *dice) number() string {
	return d.of("0", "1", "-1", "7", "255", "-4", "0x10", "12", d.of("256", "-128", "32767", "-32768", "-129", "32768", "65535", "65536", "0xffffffff", "4294967296", "-0", "01", "x", "40000", "65533"))
}

func (d *dice) place() string {
	if d.below(2) == 0 {
		return d.number()
	}
	return d.name()
}

// statement is tokens, mostly of a statement.
func (d *dice) statement() []string {
	switch d.below(9) {
	case 0:
		return []string{d.of("li", "lui", "jal"), d.register(), ",", d.place()}
	case 1:
		return []string{d.of(words[3:16]...), d.register(), ",", d.register()}
	case 2:
		return []string{"addi", d.register(), ",", d.register(), ",", d.number()}
	case 3:
		return []string{d.of("beq", "bne", "blt", "bltu"), d.register(), ",", d.register(), ",", d.place()}
	case 4:
		return []string{d.of("lw", "sw", "lb", "sb", "jalr", "cas"), d.register(), ",", d.number(), "(", d.register(), ")"}
	case 5:
		return []string{d.of(".word", ".byte", ".space", ".space"), d.number()}
	case 6:
		return []string{".text", d.of(`""`, `"abcd"`, `"a;:,b"`, `"\n\0\"\\"`, "\"\xff\u00e9ab\"", d.of(`"\t"`, `"ab`, `"\"`, "\"\x02\"", `"abcd"x`))}
	case 7:
		return []string{".align"}
	}
	return []string{"sys"}
}

// space is what may stand between tokens; where it must part two of them, it is not empty.
func (d *dice) space(must bool) string {
	s := d.of("", "", " ", "\t", "  ", " \t ")
	if must && s == "" {
		return " "
	}
	return s
}

// spell writes tokens, with space between them.
func (d *dice) spell(l []string) string {
	var out strings.Builder
	plain := false
	for _, s := range l {
		now := !strings.Contains(`,():"`, s[:1])
		out.WriteString(d.space(plain && now) + s)
		plain = now
	}
	out.WriteString(d.space(false) + d.of("", "", ";", "; \"x", ";a:b;"))
	return out.String()
}

// line is the tokens of a line, now and then with one too many, one too few, or one exchanged.
func (d *dice) line() []string {
	var l []string
	if d.below(4) == 0 {
		l = append(l, d.name(), ":")
	}
	if d.below(8) > 0 {
		l = append(l, d.statement()...)
	}
	if len(l) > 0 && d.below(40) == 0 {
		at := d.below(len(l))
		l = slices.Replace(l, at, at+d.below(2), l[d.below(len(l))])
	}
	return l
}

// P4.1, P4.2: whatever the lines are, the bytes and labels are the model's, or the fault is.
func TestAgainstModel(t *testing.T) {
	r := dice(3)
	counts := map[api.Errno]int{}
	for range 60000 {
		var l []string
		for range r.below(7) {
			l = append(l, r.spell(r.line()))
		}
		counts[agrees(t, lines(l...), 4*r.below(3)+r.below(40)/39)]++
	}
	for _, e := range []api.Errno{api.OK, api.ErrLine, api.ErrLabel, api.ErrLong, api.ErrNumber} {
		if counts[e] < 100 {
			t.Error("too few of", e, counts)
		}
	}
}

// Bytes of any kind are read, or refused, as the model does.
func TestAgainstModelOfAnyBytes(t *testing.T) {
	r := dice(5)
	parts := []string{"li", "r1", ",", "5", ":", "a", "\"", "\\", ";", "\n", " ", "\t", "(", ")", ".text", "sys", "-", "0x", "\x00", "\xff", "é", "_", "n", ".word", "0"}
	for range 60000 {
		var text strings.Builder
		for range r.below(9) {
			text.WriteString(r.of(parts...))
		}
		agrees(t, text.String(), 0)
	}
}

// P4.3

func TestThereAndBack(t *testing.T) {
	r := dice(9)
	for range 3000 {
		b := make([]byte, r.below(40))
		for i := range b {
			b[i] = byte(r.below(256))
			if i%4 == 0 {
				b[i] %= 32
			} else if r.below(2) == 0 {
				b[i] = 0
			}
		}
		assembles(t, asm.Disassemble(b), 4*r.below(16384), b)
	}
	for op := range 256 {
		for range 64 {
			w := r.word()&^0xff | uint32(op)
			for _, w := range []uint32{w, w & 0xffff, w & 0xffff0fff, w & 0xfff, w & 0xff} {
				assembles(t, asm.Print(w), 0, le(w))
			}
		}
	}
	full := bytes.Repeat(le(28, 0, 0x10), api.MaxProgram/12)
	assembles(t, asm.Disassemble(full), 65532, full)
}

// P4.4

// renamed is the tokens with each label's name another one. (No other token of a good line is a name of these but as the word or a register.)
func renamed(l []string) []string {
	out := slices.Clone(l)
	for i, s := range l {
		first := i == 0 && len(l) > 1 && l[1] == ":"
		last := i == len(l)-1 && i > 0 && isName(s) && !strings.Contains(`,():".`, s[:1]) && slices.Contains(strings.Fields("li lui jal beq bne blt bltu"), l[slices.Index(l, ":")+1])
		if first || last {
			out[i] = "Q_" + s + "_9"
		}
	}
	return out
}

func TestWhatChangesNothing(t *testing.T) {
	r := dice(11)
	good := 0
	for range 20000 {
		var plain, spaced, other []string
		for range r.below(5) {
			l := r.line()
			plain = append(plain, strings.Join(l, " "))
			spaced = append(spaced, r.spell(l))
			other = append(other, r.spell(renamed(l)))
		}
		b, e, n := asm.Assemble(lines(plain...), 0)
		if c, f, m := asm.Assemble(lines(spaced...), 0); f != e || m != n || !bytes.Equal(c, b) {
			t.Fatalf("%q: %x %d %d, not %x %d %d", spaced, c, f, m, b, e, n)
		}
		if e != api.OK || len(b) == 0 {
			continue
		}
		good++
		assembles(t, lines(other...), 0, b)
	}
	if good < 1000 {
		t.Error("too few good ones:", good)
	}
}
