package class

import "strings"

// Bracket reads what stands between brackets, from the byte behind the opening one on: its set, and the place behind the
// closing one.
func Bracket(s string, at int) (set Set, end int, ok bool) {
	if at < 0 || at > len(s) {
		return Set{}, 0, false
	}
	others := strings.HasPrefix(s[at:], "^")
	if others {
		at++
	}
	for first := at; at < len(s) && (s[at] != ']' || at == first); {
		item, next, ok := readItem(s, at)
		if !ok {
			return Set{}, 0, false
		}
		set, at = set.Or(item), next
	}
	if at == len(s) {
		return Set{}, 0, false
	}
	if others {
		set = set.Not()
	}
	return set, at + 1, true
}

// readItem reads the item at a place that has a byte: its set, and the place behind it.
func readItem(s string, at int) (Set, int, bool) {
	if namesAt(s, at) {
		return readName(s, at)
	}
	low, at, ok := readEnd(s, at)
	if !ok || !rangesAt(s, at) {
		return Of(low), at, ok
	}
	at++
	if namesAt(s, at) {
		return Set{}, 0, false
	}
	high, at, ok := readEnd(s, at)
	return Span(low, high), at, ok && low <= high
}

// namesAt tells whether a name in brackets of its own begins at this place.
func namesAt(s string, at int) bool { return strings.HasPrefix(s[at:], "[:") }

// readName reads `[:`, a name and `:]`.
func readName(s string, at int) (Set, int, bool) {
	at += len("[:")
	name, _, closed := strings.Cut(s[at:], ":]")
	set, known := Named(name)
	return set, at + len(name) + len(":]"), closed && known
}

// rangesAt tells whether a `-` stands at this place that has another end behind it.
func rangesAt(s string, at int) bool {
	return at+1 < len(s) && s[at] == '-' && s[at+1] != ']'
}

// readEnd reads one end, at a place that has a byte: its byte, and the place behind it.
func readEnd(s string, at int) (byte, int, bool) {
	if s[at] != '\\' {
		return s[at], at + 1, true
	}
	at++
	if at == len(s) {
		return 0, 0, false
	}
	switch b := s[at]; {
	case b == 'n':
		return '\n', at + 1, true
	case b == 't':
		return '\t', at + 1, true
	case !isOctal(b):
		return b, at + 1, true
	}
	b, next := readOctal(s, at)
	return b, next, true
}

// readOctal reads up to three octal digits; a byte wraps round by itself.
func readOctal(s string, at int) (b byte, next int) {
	for next = at; next < len(s) && next < at+3 && isOctal(s[next]); next++ {
		b = b*8 + s[next] - '0'
	}
	return b, next
}

func isOctal(b byte) bool { return b >= '0' && b <= '7' }
