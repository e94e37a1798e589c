package printf

import (
	"math"
	"strconv"
	"strings"

	"tailrace/num"
)

// told is what a conversion tells of an argument, ahead of being filled up to its width.
type told struct {
	sign, body string
	fills      bool // noughts may stand between them
}

// tell tells what the letter makes of an argument.
func (c conversion) tell(a Arg) told {
	switch c.letter {
	case 'c':
		return told{body: char(a)}
	case 's':
		return told{body: c.cut(a.S)}
	}
	digits, below := strings.CutPrefix(num.Digits(a.N), "-")
	if !finite(a.N) {
		return told{sign: c.sign(below), body: digits}
	}
	switch c.letter {
	case 'd', 'i', 'u':
		return c.whole(digits, below)
	case 'o':
		return c.whole(based(a.N, 8, digits), below)
	case 'x':
		return c.whole(based(a.N, 16, digits), below)
	case 'X':
		return c.whole(strings.ToUpper(based(a.N, 16, digits)), below)
	}
	return told{c.sign(a.N < 0), c.float(math.Abs(a.N)), true}
}

// char tells one byte; of a number that is none 0, of an empty text nothing.
func char(a Arg) string {
	if !a.IsNum {
		return a.S[:min(len(a.S), 1)]
	}
	b := byte(0)
	if 0 <= a.N && a.N < 1<<53 {
		b = byte(uint64(a.N))
	}
	return string([]byte{b})
}

// cut tells as many bytes as the precision says.
func (c conversion) cut(s string) string {
	if c.prec == none {
		return s
	}
	return s[:min(len(s), c.prec)]
}

// based tells the digits of that base; those that there are, if the whole part is below 0 or has more than 64 bits.
func based(x float64, base int, digits string) string {
	x = math.Trunc(x)
	if x < 0 || x >= 1<<64 {
		return digits
	}
	return strconv.FormatUint(uint64(x), base)
}

// whole tells a whole number, with noughts ahead up to the precision.
func (c conversion) whole(digits string, below bool) told {
	noughts := strings.Repeat("0", max(c.prec-len(digits), 0))
	return told{c.sign(below), noughts + digits, c.prec == none}
}

// float tells the number's size by strconv.
func (c conversion) float(size float64) string {
	letter, prec := c.letter, c.prec
	if prec == none {
		prec = 6
	}
	switch letter {
	case 'F':
		letter = 'f'
	case 'g', 'G':
		prec = max(prec, 1)
	}
	return strconv.FormatFloat(size, letter, prec, 64)
}

// sign tells what stands ahead of a number: of those below 0 the -, of others what the flags ask for, where the letter takes it.
func (c conversion) sign(below bool) string {
	switch {
	case below:
		return "-"
	case strings.IndexByte("uoxX", c.letter) >= 0:
		return ""
	case c.plus:
		return "+"
	case c.blank:
		return " "
	}
	return ""
}
