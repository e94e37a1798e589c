package ere

import (
	"strings"

	"tailrace/api"
	"tailrace/class"
)

// Parse reads a regular expression: its tree; else where it is wrong, and what is.
func Parse(s string) (Re, int, api.Errno) {
	if s == "" {
		return Re{Kind: Empty}, 0, api.OK
	}
	r := reader{s: s}
	p, e := r.alternation()
	if e == api.OK && r.at < len(s) {
		e = api.ErrRegex
	}
	if e != api.OK {
		return Re{}, r.at, e
	}
	if !p.fits() {
		return Re{}, 0, api.ErrRegex
	}
	return p.re, 0, api.OK
}

// reader goes through a text from the left. Beside an error at is the place that is told with it.
type reader struct {
	s    string
	at   int
	open int // how many `(` stand in one another here
}

// sees tells whether one of these bytes comes next.
func (r *reader) sees(bytes string) bool {
	return r.at < len(r.s) && strings.IndexByte(bytes, r.s[r.at]) >= 0
}

// alternation reads rows with `|` between, up to what can be part of none.
func (r *reader) alternation() (part, api.Errno) {
	var rows list
	for {
		p, e := r.row()
		if e != api.OK {
			return part{}, e
		}
		rows.add(p)
		if !r.sees("|") {
			return rows.joined(Alt), api.OK
		}
		r.at++
	}
}

// row reads one or more pieces.
func (r *reader) row() (part, api.Errno) {
	var pieces list
	for {
		p, e := r.piece()
		if e != api.OK {
			return part{}, e
		}
		pieces.add(p)
		if r.at == len(r.s) || r.sees("|)") {
			return pieces.joined(Cat), api.OK
		}
	}
}

// piece reads an atom and the signs behind it.
func (r *reader) piece() (part, api.Errno) {
	p, e := r.atom()
	for e == api.OK && r.sees("*+?{") {
		p, e = r.sign(p)
	}
	return p, e
}

// sign reads one that stands next, behind a part.
func (r *reader) sign(p part) (part, api.Errno) {
	switch r.s[r.at] {
	case '*':
		p = one(Star, p)
	case '+':
		p = one(Plus, p)
	case '?':
		p = one(Opt, p)
	default:
		t, end, ok := readTimes(r.s, r.at+1)
		if !ok {
			return part{}, api.ErrRegex
		}
		r.at = end
		return p.again(t), api.OK
	}
	r.at++
	return p, api.OK
}

// atom reads what a piece begins with.
func (r *reader) atom() (part, api.Errno) {
	if r.at == len(r.s) || r.sees("*+?{|)") {
		return part{}, api.ErrRegex
	}
	b := r.s[r.at]
	switch b {
	case '(':
		return r.group()
	case '[':
		return r.bracket()
	case '\\':
		return r.escape()
	}
	r.at++
	switch b {
	case '.':
		return among(class.Set{}.Not()), api.OK
	case '^':
		return leaf(First), api.OK
	case '$':
		return leaf(Last), api.OK
	}
	return among(class.Of(b)), api.OK
}

// group reads `(`, an alternation and `)`.
func (r *reader) group() (part, api.Errno) {
	if r.open == api.MaxNest/4 {
		return part{}, api.ErrDeep
	}
	r.open++
	r.at++
	p, e := r.alternation()
	if e == api.OK && !r.sees(")") {
		e = api.ErrRegex
	}
	if e != api.OK {
		return part{}, e
	}
	r.at++
	r.open--
	return p, api.OK
}

// bracket reads `[` and what is behind it. Whatever is wrong there, the place is that of the `[`.
func (r *reader) bracket() (part, api.Errno) {
	s, end, ok := class.Bracket(r.s, r.at+1)
	if !ok {
		return part{}, api.ErrRegex
	}
	r.at = end
	return among(s), api.OK
}

// escape reads a `\` and what it takes with it.
func (r *reader) escape() (part, api.Errno) {
	r.at++
	if r.at == len(r.s) {
		return part{}, api.ErrRegex
	}
	b, end := readOctal(r.s, r.at)
	if end == r.at {
		b, end = escaped(r.s[r.at]), r.at+1
	}
	r.at = end
	return among(class.Of(b)), api.OK
}

// escaped tells the byte that a `\` and this one stand for.
func escaped(b byte) byte {
	switch b {
	case 'n':
		return '\n'
	case 't':
		return '\t'
	case 'r':
		return '\r'
	case 'f':
		return '\f'
	case 'v':
		return '\v'
	case 'a':
		return '\a'
	case 'b':
		return '\b'
	}
	return b
}

// readOctal reads up to three octal digits, or none; a byte wraps round by itself.
func readOctal(s string, at int) (b byte, end int) {
	for end = at; end < len(s) && end < at+3 && s[end] >= '0' && s[end] <= '7'; end++ {
		b = b*8 + s[end] - '0'
	}
	return b, end
}

// readTimes reads what stands behind a `{`, and the `}`.
func readTimes(s string, at int) (t times, end int, ok bool) {
	t.least, at, ok = readNumber(s, at)
	t.most = t.least
	if ok && strings.HasPrefix(s[at:], ",") {
		at++
		t.endless = strings.HasPrefix(s[at:], "}")
		if !t.endless {
			t.most, at, ok = readNumber(s, at)
		}
	}
	ok = ok && strings.HasPrefix(s[at:], "}") && t.least <= t.most && t.most <= api.MaxRepeat
	return t, at + 1, ok
}

// readNumber reads one or two decimal digits.
func readNumber(s string, at int) (n, end int, ok bool) {
	for end = at; end < len(s) && end < at+2 && s[end] >= '0' && s[end] <= '9'; end++ {
		n = n*10 + int(s[end]-'0')
	}
	return n, end, end > at
}
