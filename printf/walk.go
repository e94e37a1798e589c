package printf

import (
	"math"
	"strings"

	"tailrace/api"
)

const (
	letters = "diuoxXfFeEgGcs"
	none    = -1               // of a precision: there is none
	beyond  = api.MaxWidth + 1 // stands for every width and precision that is too great
)

// conversion is what stands behind a %.
type conversion struct {
	left, plus, blank, noughts bool // the flags -, +, blank and 0
	width, prec                int
	letter                     byte
}

// walk goes through a format and its arguments.
type walk struct {
	ahead string // of the format
	args  []Arg  // those that no conversion has taken
	out   []byte
}

// text puts out what stands ahead of the next conversion, and goes past its %; false, if there is none.
func (w *walk) text() bool {
next:
	text, behind, found := strings.Cut(w.ahead, "%")
	w.add(text)
	w.ahead = behind
	if found && w.look() == '%' {
		w.skip()
		w.add("%")
		goto next
	}
	return found
}

// conversion reads what stands behind a %; false, if that is none.
func (w *walk) conversion() (conversion, bool) {
	c := conversion{prec: none}
flags:
	switch w.look() {
	case '-':
		c.left = true
	case '+':
		c.plus = true
	case ' ':
		c.blank = true
	case '0':
		c.noughts = true
	default:
		goto width
	}
	w.skip()
	goto flags
width:
	c.width = w.count()
	if c.width < 0 {
		c.left, c.width = true, -c.width
	}
	if w.look() != '.' {
		goto letter
	}
	w.skip()
	c.prec = max(w.count(), none)
letter:
	c.letter = w.look()
	if c.width > api.MaxWidth || c.prec > api.MaxWidth || strings.IndexByte(letters, c.letter) < 0 {
		return conversion{}, false
	}
	w.skip()
	return c, true
}

// count reads a width or a precision: of a * the next argument's; else digits, of none at all 0.
func (w *walk) count() int {
	n := 0
	if w.look() == '*' {
		w.skip()
		return wholePart(w.next().N)
	}
digits:
	b := w.look()
	if b < '0' || b > '9' {
		return n
	}
	w.skip()
	n = min(10*n+int(b-'0'), beyond)
	goto digits
}

// wholePart tells a number's whole part, as far as a width goes; what is not finite is as what is too great.
func wholePart(x float64) int {
	if !finite(x) {
		return beyond
	}
	return int(max(-beyond, min(x, beyond)))
}

func finite(x float64) bool {
	return -math.MaxFloat64 <= x && x <= math.MaxFloat64
}

// look tells the byte that is next; 0, which no conversion has, at the end.
func (w *walk) look() byte {
	if w.ahead == "" {
		return 0
	}
	return w.ahead[0]
}

// skip goes past a byte that was looked at.
func (w *walk) skip() { w.ahead = w.ahead[1:] }

// next takes the next argument; one that is not there is empty.
func (w *walk) next() Arg {
	if len(w.args) == 0 {
		return Arg{}
	}
	a := w.args[0]
	w.args = w.args[1:]
	return a
}

// put puts out what a conversion tells, filled up to its width.
func (w *walk) put(c conversion, t told) {
	fill := max(c.width-len(t.sign)-len(t.body), 0)
	switch {
	case c.left:
		w.add(t.sign)
		w.add(t.body)
		w.add(strings.Repeat(" ", fill))
	case c.noughts && t.fills:
		w.add(t.sign)
		w.add(strings.Repeat("0", fill))
		w.add(t.body)
	default:
		w.add(strings.Repeat(" ", fill))
		w.add(t.sign)
		w.add(t.body)
	}
}

// add puts out a text, but no more than shows that all in all it is too much: an argument may be told many times.
func (w *walk) add(s string) {
	room := api.MaxText + 1 - len(w.out)
	w.out = append(w.out, s[:min(len(s), room)]...)
}
