package asm

import (
	"strings"

	"parapet/api"
)

const (
	figures = "0123456789abcdef"
	// Any other byte goes on with the token that it stands in.
	ends = " \t,():\";"
)

// cut is a line's tokens: a quoted text's begins with its quote, as no other one does. False: a quoted text has no end.
func cut(line string) ([]string, bool) {
	var tokens []string
	at := 0
scan:
	for at < len(line) {
		from := at
		switch line[at] {
		case ' ', '\t':
			at++
			continue scan
		case ';':
			break scan
		case ',', '(', ')', ':':
			at++
		case '"':
			n := quotedLength(line[at:])
			if n == 0 {
				return nil, false
			}
			at += n
		default:
			at += plainLength(line[at:])
		}
		tokens = append(tokens, line[from:at])
	}
	return tokens, true
}

// plainLength is how many bytes there are up to one that ends a token.
func plainLength(s string) int {
	if n := strings.IndexAny(s, ends); n >= 0 {
		return n
	}
	return len(s)
}

// quotedLength is how many bytes the quoted text has with which s begins, its quotes too; 0: it has no end.
func quotedLength(s string) int {
	for at := 1; at < len(s); at++ {
		switch s[at] {
		case '"':
			return at + 1
		case '\\':
			at++ // what stands behind it ends nothing
		}
	}
	return 0
}

// readQuoted is the bytes for which a quoted text stands.
func readQuoted(token string) (string, bool) {
	if token[0] != '"' {
		return "", false
	}
	inner := token[1 : len(token)-1]
	out := make([]byte, 0, len(inner))
	for at := 0; at < len(inner); at++ {
		c := inner[at]
		if c < ' ' {
			return "", false
		}
		if c == '\\' {
			at++ // there is one: a quote that stands behind a single \ is not the last one
			switch inner[at] {
			case '"', '\\':
				c = inner[at]
			case 'n':
				c = '\n'
			case '0':
				c = 0
			default:
				return "", false
			}
		}
		out = append(out, c)
	}
	return string(out), true
}

// isLabel tells whether a token is of a label's form.
func isLabel(token string) bool {
	if len(token) > api.MaxLabel {
		return false
	}
	for i, r := range token {
		letter := r >= 'a' && r <= 'z' || r >= 'A' && r <= 'Z'
		later := r >= '0' && r <= '9' || r == '_'
		if !letter && (i == 0 || !later) {
			return false
		}
	}
	return token != ""
}

// readRegister is the number of a register.
func readRegister(token string) (int, bool) {
	digits, ok := strings.CutPrefix(token, "r")
	if !ok {
		return 0, false
	}
	n, ok := readDecimal(digits)
	return int(n), ok && n <= lastRegister
}

// readNumber is a number, decimal or with 0x ahead.
func readNumber(token string) (int64, bool) {
	if digits, ok := strings.CutPrefix(token, "0x"); ok {
		return readDigits(digits, 16, 8)
	}
	digits, below := strings.CutPrefix(token, "-")
	n, ok := readDecimal(digits)
	if below {
		return -n, ok && n > 0 && -n >= leastNumber
	}
	return n, ok && n <= mostNumber
}

// readDecimal is a number of decimal digits, without noughts ahead.
func readDecimal(digits string) (int64, bool) {
	if len(digits) > 1 && digits[0] == '0' {
		return 0, false
	}
	return readDigits(digits, 10, 10)
}

// readDigits is a number of 1 to so many digits of a base.
func readDigits(digits string, base, most int) (int64, bool) {
	if digits == "" || len(digits) > most {
		return 0, false
	}
	n := int64(0)
	for _, r := range digits {
		d := strings.IndexRune(figures[:base], r)
		if d < 0 {
			return 0, false
		}
		n = n*int64(base) + int64(d)
	}
	return n, true
}
