package ere_test

import (
	"strconv"
	"strings"
	"testing"

	"tailrace/api"
	"tailrace/ere"
)

// inRow tells as many of a tree as the document asks for: of m them, then of n - m Opt ones, or, without an end, a Star.
func inRow(m, n int, endless bool, r ere.Re) ere.Re {
	l := many(m, r)
	if endless {
		l = append(l, tree(star, copyOf(r)))
	} else {
		l = append(l, many(n-m, tree(opt, r))...)
	}
	if len(l) == 0 {
		return ere.Re{}
	}
	return row(cat, l...)
}

// 9.2: the smallest numbers, spelled out.
func TestTimesSpelledOut(t *testing.T) {
	a, b := of("a"), of("b")
	for s, want := range map[string]ere.Re{
		"a{0}":        {},
		"a{1}":        a,
		"a{2}":        tree(cat, a, a),
		"a{3}":        tree(cat, a, tree(cat, a, a)),
		"a{0,}":       tree(star, a),
		"a{1,}":       tree(cat, a, tree(star, a)),
		"a{2,}":       tree(cat, a, tree(cat, a, tree(star, a))),
		"a{0,0}":      {},
		"a{0,1}":      tree(opt, a),
		"a{0,2}":      tree(cat, tree(opt, a), tree(opt, a)),
		"a{1,1}":      a,
		"a{1,2}":      tree(cat, a, tree(opt, a)),
		"a{1,3}":      tree(cat, a, tree(cat, tree(opt, a), tree(opt, a))),
		"a{2,2}":      tree(cat, a, a),
		"a{00}":       {},
		"a{01}":       a,
		"a{02,03}":    row(cat, a, a, tree(opt, a)),
		"a{00,}":      tree(star, a),
		"ab{2}":       tree(cat, a, tree(cat, b, b)),
		"a{2}b":       tree(cat, tree(cat, a, a), b),
		"a{2}b{2}":    tree(cat, tree(cat, a, a), tree(cat, b, b)),
		"a{0}b":       tree(cat, ere.Re{}, b),
		"ab{0}":       tree(cat, a, ere.Re{}),
		"a|b{2}":      tree(alt, a, tree(cat, b, b)),
		"(a|b){2}":    tree(cat, tree(alt, a, b), tree(alt, a, b)),
		"(ab){2}":     tree(cat, tree(cat, a, b), tree(cat, a, b)),
		"(ab){1,2}":   tree(cat, tree(cat, a, b), tree(opt, tree(cat, a, b))),
		"^{2}":        tree(cat, tree(first), tree(first)),
		"a*{2}":       tree(cat, tree(star, a), tree(star, a)),
		"a{2}*":       tree(star, tree(cat, a, a)),
		"a{0}*":       tree(star, ere.Re{}),
		"a{0,1}?":     tree(opt, tree(opt, a)),
		"a{2}{2}":     tree(cat, tree(cat, a, a), tree(cat, a, a)),
		"a{2}{0}":     {},
		"a{0}{2}":     tree(cat, ere.Re{}, ere.Re{}),
		"a{2}{1}":     tree(cat, a, a),
		"a{0,}{0,}":   tree(star, tree(star, a)),
		"a{1,2}{0,1}": tree(opt, tree(cat, a, tree(opt, a))),
		"[ab]{2}":     tree(cat, of("ab"), of("ab")),
		"\\1{2}":      tree(cat, of("\x01"), of("\x01")),
		"\\{2}":       row(cat, of("{"), of("2"), of("}")),
		"a\\{2}":      row(cat, a, of("{"), of("2"), of("}")),
		"a}":          tree(cat, a, of("}")),
		"a{2}}":       tree(cat, tree(cat, a, a), of("}")),
		"((a{2}){2}b){2}": tree(cat, tree(cat, row(cat, tree(cat, a, a), tree(cat, a, a)), b),
			tree(cat, row(cat, tree(cat, a, a), tree(cat, a, a)), b)),
	} {
		parses(t, s, want)
	}
}

// 9.2: each M and each N of one and of two digits, and each of three: what is below, at and above the greatest repeat.
func TestTimesOfEachNumber(t *testing.T) {
	a := of("a")
	for m := range 130 {
		for _, text := range texts(m) {
			if m <= 50 && len(text) <= 2 {
				parses(t, "a{"+text+"}", inRow(m, m, false, a))
				parses(t, "a{"+text+",}", inRow(m, 0, true, a))
			} else {
				refuses(t, "a{"+text+"}", 1, api.ErrRegex)
				refuses(t, "a{"+text+",}", 1, api.ErrRegex)
			}
		}
		for n := range 130 {
			s := "a{" + strconv.Itoa(m) + "," + strconv.Itoa(n) + "}"
			if m <= n && n <= 50 {
				parses(t, s, inRow(m, n, false, a))
			} else {
				refuses(t, s, 1, api.ErrRegex)
			}
		}
	}
	for _, s := range []string{"a{0,050}", "a{000,1}", "a{1,001}", "a{0000000001}", "a{1,000}", "a{18446744073709551617}", "a{99,}", "a{999}"} {
		refuses(t, s, 1, api.ErrRegex)
	}
}

// texts tells a number in one to three digits.
func texts(n int) []string {
	var l []string
	for width := 1; width <= 3; width++ {
		if s := strconv.Itoa(n); len(s) <= width {
			l = append(l, strings.Repeat("0", width-len(s))+s)
		}
	}
	return l
}

// 9.2: the greatest repeat of a greater thing, and as many leaves as may be.
func TestTimesOfGreaterThings(t *testing.T) {
	a := of("a")
	ab := tree(cat, a, of("b"))
	parses(t, "(ab){50}", inRow(50, 50, false, ab))
	parses(t, "(ab){20,50}", inRow(20, 50, false, ab))
	parses(t, "(ab){50,}", inRow(50, 0, true, ab))
	parses(t, "(ab*|c){49,50}", inRow(49, 50, false, tree(alt, tree(cat, a, tree(star, of("b"))), of("c"))))
	parses(t, "(a{50}){8}", inRow(8, 8, false, inRow(50, 50, false, a)))
	parses(t, "a{50}{8}", inRow(8, 8, false, inRow(50, 50, false, a)))
	parses(t, "(a{50}){7,}", inRow(7, 0, true, inRow(50, 50, false, a)))
	parses(t, "(a{50}){2,8}", inRow(2, 8, false, inRow(50, 50, false, a)))
	parses(t, "a{8}{50}", inRow(50, 50, false, inRow(8, 8, false, a)))
	parses(t, "a{0}{50}{8}", inRow(8, 8, false, inRow(50, 50, false, ere.Re{})))
	parses(t, "a"+strings.Repeat("*", 37)+"{0,2}", inRow(0, 2, false, signs(37, star, a)))
	refuses(t, "a"+strings.Repeat("*", 38)+"{0,2}", 0, api.ErrRegex)
	for _, s := range []string{"(a{50}){9}", "a{50}{9}", "(a{50}){8,}", "(a{50}){2,9}", "a{9}{50}", "a{50}{8}b", "ba{50}{8}", "a{0}{50}{9}", "(a{50}{8})*b", "a{50}{8}|b", "a" + strings.Repeat("*", 39) + "{2}", "a" + strings.Repeat("*", 39) + "{0,1}", "a" + strings.Repeat("*", 39) + "{0,}", "a" + strings.Repeat("*", 40) + "{1}"} {
		refuses(t, s, 0, api.ErrRegex)
	}
	parses(t, "a"+strings.Repeat("*", 39)+"{1}", signs(39, star, a))
	parses(t, "a"+strings.Repeat("*", 38)+"{1,}", inRow(1, 0, true, signs(38, star, a)))
}

// 9.2: repeats in one another that would make very many leaves are not right; but a part that stands no times is Empty,
// however great it would have been.
func TestTimesInOneAnother(t *testing.T) {
	b := of("b")
	for _, much := range []string{"(a{50}){9}", "a" + strings.Repeat("{50}", 10), "a" + strings.Repeat("{50}", 1000), "a" + strings.Repeat("{50,}", 20), "a" + strings.Repeat("{0,50}", 20), strings.Repeat("(", 10) + "a" + strings.Repeat("{50})", 10), "(" + strings.Repeat("a", 401) + ")", "a" + strings.Repeat("*", 40), "(a" + strings.Repeat("*", 39) + "b)*", "(a|b)" + strings.Repeat("+", 500)} {
		for _, s := range []string{much, much + "b", "b" + much, much + "|b", "b|" + much, much + "*", much + "{1}", much + "{0,1}", much + "{0,}", much + "{50}"} {
			refuses(t, s, 0, api.ErrRegex)
			refuses(t, s+")", len(s), api.ErrRegex)
		}
		parses(t, much+"{0}", ere.Re{})
		parses(t, much+"{00}", ere.Re{})
		parses(t, much+"{0,0}", ere.Re{})
		parses(t, much+"{0}b", tree(cat, ere.Re{}, b))
		parses(t, much+"{50}{0}|b", tree(alt, ere.Re{}, b))
		parses(t, "b"+much+"*{0}", tree(cat, b, ere.Re{}))
		parses(t, much+"{0}"+much+"{0}", tree(cat, ere.Re{}, ere.Re{}))
		if !strings.HasPrefix(much, "((") {
			parses(t, "(b|"+much+"){0}b", tree(cat, ere.Re{}, b))
			parses(t, "(b"+much+")*{0}b", tree(cat, ere.Re{}, b))
		}
	}
	parses(t, "((a{50}){50}){0}b", tree(cat, ere.Re{}, b))
}

// 9.2: what is no such form behind a `{`, or never ends: the place is that of the `{`.
func TestTimesOfNoForm(t *testing.T) {
	for _, form := range []string{"", "}", ",}", ",", ",2}", "x}", "1x}", "1,x}", "1,2x}", "1,2,}", "1,2,3}", "1,,2}", " 1}", "1 }", "1, 2}", "-1}", "+1}", "1.0}", "1;2}", "0x1}", "a", "1", "12", "1,", "12,", "1,2", "12,12", "123", "100}", "1,100}", "100,}", "001}", "51}", "51,}", "0,51}", "50,51}", "99}", "51,50}", "51,51}", "2,1}", "1,0}", "50,49}", "10,9}", "1)", "1]", "1{", "{1}}", "\\1}", "1\\}", "1,\\}", "(1)}", "\xb2}", "²}"} {
		for _, ahead := range []string{"a", "(ab)", "(a|b", "x[{]", "\\{", "a*", "b{2}", "^", "a{1,}"} {
			for _, behind := range []string{"", "a", "(", "*"} {
				// What stands behind could make a form of one that has not ended.
				if behind != "" && form == "" {
					continue
				}
				refuses(t, ahead+"{"+form+behind, len(ahead), api.ErrRegex)
			}
		}
	}
}
