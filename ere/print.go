package ere

import (
	"strings"

	"tailrace/class"
)

// Print tells a text that is parsed to the same language as a right tree's; nothing, of another one.
func Print(r Re) string {
	if !Right(r) {
		return ""
	}
	var b strings.Builder
	write(&b, r)
	return b.String()
}

func write(b *strings.Builder, r Re) {
	switch r.Kind {
	case Empty:
		b.WriteString("(.?){0}")
	case Set:
		writeSet(b, r.Set)
	case Cat:
		writeGroup(b, r.Kids[0])
		writeGroup(b, r.Kids[1])
	case Alt:
		b.WriteByte('(')
		writeGroup(b, r.Kids[0])
		b.WriteByte('|')
		writeGroup(b, r.Kids[1])
		b.WriteByte(')')
	case Star:
		writeGroup(b, r.Kids[0])
		b.WriteByte('*')
	case Plus:
		writeGroup(b, r.Kids[0])
		b.WriteByte('+')
	case Opt:
		writeGroup(b, r.Kids[0])
		b.WriteByte('?')
	case First:
		b.WriteByte('^')
	case Last:
		b.WriteByte('$')
	}
}

func writeGroup(b *strings.Builder, r Re) {
	b.WriteByte('(')
	write(b, r)
	b.WriteByte(')')
}

func writeSet(b *strings.Builder, s class.Set) {
	switch s.Count() {
	case 256:
		b.WriteByte('.')
		return
	case 0:
		// A `]` just behind the `[` would be one of the set.
		b.WriteString(`[^\000-\377]`)
		return
	}
	b.WriteByte('[')
	for x := range 256 {
		if s.Has(byte(x)) {
			writeOctal(b, byte(x))
		}
	}
	b.WriteByte(']')
}

// writeOctal writes a byte as `\` and three octal digits.
func writeOctal(b *strings.Builder, x byte) {
	b.WriteByte('\\')
	b.WriteByte('0' + x>>6)
	b.WriteByte('0' + x>>3&7)
	b.WriteByte('0' + x&7)
}

// Quote tells a text that is parsed to the row of these bytes.
func Quote(s string) string {
	var b strings.Builder
	b.Grow(4 * len(s))
	for i := range len(s) {
		writeOctal(&b, s[i])
	}
	return b.String()
}
