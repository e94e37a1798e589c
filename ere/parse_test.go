package ere_test

import (
	"math/rand"
	"strconv"
	"strings"
	"testing"

	"tailrace/api"
	"tailrace/class"
	"tailrace/ere"
)

// 9.2: the chapter's examples.
func TestParseExamples(t *testing.T) {
	a, b := of("a"), of("b")
	parses(t, "a", a)
	parses(t, "ab*", tree(cat, a, tree(star, b)))
	parses(t, "a|b", tree(alt, a, b))
	parses(t, "a{0}", ere.Re{})
	parses(t, "a{2}", tree(cat, a, a))
	refuses(t, "*a", 0, api.ErrRegex)
	refuses(t, "(a", 2, api.ErrRegex)
	refuses(t, "a||b", 2, api.ErrRegex)
	refuses(t, "[z-a]", 0, api.ErrRegex)
	refuses(t, "a{3,2}", 1, api.ErrRegex)
}

// 9.2: the empty text is Empty; between brackets and beside a `|` there is no such thing.
func TestParseEmpty(t *testing.T) {
	parses(t, "", ere.Re{})
	refuses(t, "()", 1, api.ErrRegex)
	refuses(t, "a()", 2, api.ErrRegex)
	refuses(t, "(())", 2, api.ErrRegex)
	refuses(t, "()a", 1, api.ErrRegex)
	refuses(t, "(a)()", 4, api.ErrRegex)
}

// 9.2: each byte is itself, but those that are signs.
func TestParseEachByte(t *testing.T) {
	for b := range 256 {
		s := string([]byte{byte(b)})
		switch s {
		case "*", "+", "?", "{", "|", ")", "[":
			refuses(t, s, 0, api.ErrRegex)
		case "(", "\\":
			refuses(t, s, 1, api.ErrRegex)
		case ".":
			parses(t, s, ere.Re{Kind: set, Set: full})
		case "^":
			parses(t, s, tree(first))
		case "$":
			parses(t, s, tree(last))
		default:
			parses(t, s, of(s))
			parses(t, "a"+s, tree(cat, of("a"), of(s)))
			parses(t, s+"*|("+s+")", tree(alt, tree(star, of(s)), of(s)))
		}
	}
	parses(t, "]}-,0/\"&:", row(cat, of("]"), of("}"), of("-"), of(","), of("0"), of("/"), of("\""), of("&"), of(":")))
	parses(t, "é", tree(cat, of("\xc3"), of("\xa9")))
	parses(t, " \n", tree(cat, of(" "), of("\n")))
}

// 9.2: rows are Cats of the first and of the others, alternations are Alts of them; a row binds closer, a sign closest.
func TestParseRowsAndAlternations(t *testing.T) {
	a, b, c, d := of("a"), of("b"), of("c"), of("d")
	for s, want := range map[string]ere.Re{
		"ab":        tree(cat, a, b),
		"abc":       tree(cat, a, tree(cat, b, c)),
		"abcd":      tree(cat, a, tree(cat, b, tree(cat, c, d))),
		"a|b|c":     tree(alt, a, tree(alt, b, c)),
		"a|b|c|d":   tree(alt, a, tree(alt, b, tree(alt, c, d))),
		"ab|cd":     tree(alt, tree(cat, a, b), tree(cat, c, d)),
		"a|bc|d":    tree(alt, a, tree(alt, tree(cat, b, c), d)),
		"a|bc*":     tree(alt, a, tree(cat, b, tree(star, c))),
		"(a)":       a,
		"((a))":     a,
		"(a)(b)":    tree(cat, a, b),
		"(ab)c":     tree(cat, tree(cat, a, b), c),
		"a(bc)":     tree(cat, a, tree(cat, b, c)),
		"a(bc)d":    tree(cat, a, tree(cat, tree(cat, b, c), d)),
		"(a|b)|c":   tree(alt, tree(alt, a, b), c),
		"a|(b|c)":   tree(alt, a, tree(alt, b, c)),
		"(a|b)c":    tree(cat, tree(alt, a, b), c),
		"a(b|c)d":   tree(cat, a, tree(cat, tree(alt, b, c), d)),
		"(a|b)|cd":  tree(alt, tree(alt, a, b), tree(cat, c, d)),
		"((a|b)c)d": tree(cat, tree(cat, tree(alt, a, b), c), d),
	} {
		parses(t, s, want)
		parses(t, "("+s+")", want)
		parses(t, "("+s+")*", tree(star, want))
		parses(t, s+"|z", row(alt, append(sides(s, want), of("z"))...))
	}
	parses(t, strings.Repeat("a", 400), row(cat, many(400, a)...))
	parses(t, strings.Repeat("a|", 399)+"a", row(alt, many(400, a)...))
}

// sides tells what stands between the `|` of an alternation that is not in brackets of its own.
func sides(s string, r ere.Re) []ere.Re {
	var l []ere.Re
	depth, n := 0, 1
	for _, b := range s {
		switch {
		case b == '(':
			depth++
		case b == ')':
			depth--
		case b == '|' && depth == 0:
			n++
		}
	}
	for ; n > 1; n-- {
		l, r = append(l, r.Kids[0]), r.Kids[1]
	}
	return append(l, r)
}

// 9.2: a sign stands for its kind, behind each kind of atom; of several the first is innermost.
func TestParseSigns(t *testing.T) {
	kinds := map[string]int{"*": star, "+": plus, "?": opt}
	atoms := map[string]ere.Re{"a": of("a"), "(ab)": tree(cat, of("a"), of("b")), "(a|b)": tree(alt, of("a"), of("b")), ".": {Kind: set, Set: full}, "[ab]": of("ab"), "^": tree(first), "$": tree(last), "\\*": of("*"), "\\101": of("A"), "]": of("]"), "(a*)": tree(star, of("a")), "a{0}": {}}
	for atom, r := range atoms {
		for x, of1 := range kinds {
			parses(t, atom+x, tree(of1, r))
			for y, of2 := range kinds {
				parses(t, atom+x+y, tree(of2, tree(of1, r)))
				for z, of3 := range kinds {
					parses(t, atom+x+y+z, tree(of3, tree(of2, tree(of1, r))))
				}
			}
			parses(t, "x"+atom+x+"y", row(cat, of("x"), tree(of1, r), of("y")))
			parses(t, "x|"+atom+x+"|y", row(alt, of("x"), tree(of1, r), of("y")))
		}
	}
	parses(t, "a"+strings.Repeat("*", 39), signs(39, star, of("a")))
}

// 9.2: nothing that a sign could be of stands ahead of it.
func TestParseSignsOfNothing(t *testing.T) {
	for _, sign := range []string{"*", "+", "?", "{1}", "{0}", "{", "{,}", "{0,1}"} {
		refuses(t, sign, 0, api.ErrRegex)
		refuses(t, sign+"a", 0, api.ErrRegex)
		refuses(t, "a|"+sign, 2, api.ErrRegex)
		refuses(t, "a|"+sign+"b", 2, api.ErrRegex)
		refuses(t, "("+sign+"a)", 1, api.ErrRegex)
		refuses(t, "ab("+sign+")", 3, api.ErrRegex)
		refuses(t, "(a|"+sign+")", 3, api.ErrRegex)
	}
}

// 9.2: a row is one piece at least: `|` at either end, twice, and beside brackets.
func TestParseBars(t *testing.T) {
	for s, place := range map[string]int{"|": 0, "||": 0, "|a": 0, "||a": 0, "a|": 2, "a||": 2, "a|b|": 4, "a||b": 2, "a|b||c": 4, "(|a)": 1, "(a|)": 3, "(a||b)": 3, "(|)": 1, "a(|b)": 2, "a|()": 3, "(a)|": 4, "ab|)": 3, "((a)|)": 5} {
		refuses(t, s, place, api.ErrRegex)
	}
}

// 9.2: brackets that do not end, or do not begin.
func TestParseUnevenBrackets(t *testing.T) {
	for s, place := range map[string]int{"(": 1, "((": 2, "a(": 2, "(a": 2, "(ab": 3, "((a)": 4, "(a)(": 4, "(a|b": 4, "(a|": 3, "(a*": 3, "(a\\)": 4, "([)]": 4, "(a{1}": 5, ")": 0, ")(": 0, "a)": 1, "(a))": 3, "a)b": 1, "(a)b)c": 4, "a|b)": 3, "\\(a)": 3, "[(]a)": 4, "a*)": 2, "a{1})": 4} {
		refuses(t, s, place, api.ErrRegex)
	}
}

// 9.2: `(` in one another, as many as may be and one more; those that stand beside one another, or are no such ones, don't count.
func TestParseDeepBrackets(t *testing.T) {
	open, end := strings.Repeat("(", 10), strings.Repeat(")", 10)
	a := of("a")
	parses(t, open+"a"+end, a)
	parses(t, open+"a"+end+open+"a"+end, tree(cat, a, a))
	parses(t, open+"a"+end+"|"+open+"a"+end, tree(alt, a, a))
	parses(t, strings.Repeat("(", 9)+strings.Repeat("(a)", 50)+strings.Repeat(")", 9), row(cat, many(50, a)...))
	parses(t, strings.Repeat("(a)", 200), row(cat, many(200, a)...))
	parses(t, open+strings.Repeat("\\(", 20)+"[((((]"+end, row(cat, append(many(20, of("(")), of("("))...))
	refuses(t, open+"(", 10, api.ErrDeep)
	refuses(t, open+"(a)"+end, 10, api.ErrDeep)
	refuses(t, open+"((((a", 10, api.ErrDeep)
	refuses(t, "a"+open+"a(", 12, api.ErrDeep)
	refuses(t, open+"a"+end+open+"(", 31, api.ErrDeep)
	refuses(t, "(a)"+open+"b|(", 15, api.ErrDeep)
	refuses(t, "\\("+open+"[(]\\((", 17, api.ErrDeep)
	refuses(t, strings.Repeat("(", 9)+"(a)(b)((", 16, api.ErrDeep)
	refuses(t, strings.Repeat("(", 1<<20), 10, api.ErrDeep)
	refuses(t, open, 10, api.ErrRegex)
	refuses(t, open+")", 10, api.ErrRegex)
	refuses(t, open+"a"+end+"(", 22, api.ErrRegex)
}

// 9.2: `^` and `$` stand for the ends wherever they are.
func TestParseEnds(t *testing.T) {
	a, f, l := of("a"), tree(first), tree(last)
	for s, want := range map[string]ere.Re{
		"^":       f,
		"$":       l,
		"^$":      tree(cat, f, l),
		"$^":      tree(cat, l, f),
		"^a$":     row(cat, f, a, l),
		"a^a":     row(cat, a, f, a),
		"a$a":     row(cat, a, l, a),
		"^^":      tree(cat, f, f),
		"^*":      tree(star, f),
		"$+":      tree(plus, l),
		"^?a":     tree(cat, tree(opt, f), a),
		"^{2}":    tree(cat, f, f),
		"a|^":     tree(alt, a, f),
		"$|a":     tree(alt, l, a),
		"(^)":     f,
		"(^a)$":   tree(cat, tree(cat, f, a), l),
		"a(^|$)a": row(cat, a, tree(alt, f, l), a),
		"\\^\\$":  tree(cat, of("^"), of("$")),
		"[$^]":    of("$^"),
	} {
		parses(t, s, want)
	}
}

// 9.2: what stands between brackets is class.Bracket's; whatever is wrong there, the place is that of the `[`.
func TestParseSets(t *testing.T) {
	for s, want := range map[string]class.Set{
		"[a]":           class.Of('a'),
		"[a-c]":         class.Span('a', 'c'),
		"[^a-c]":        class.Span('a', 'c').Not(),
		"[]]":           class.Of(']'),
		"[^]]":          class.Of(']').Not(),
		"[]a-]":         class.Of(']', 'a', '-'),
		"[[:digit:]_]":  class.Span('0', '9').Or(class.Of('_')),
		"[(|)*+?{}.$]":  class.Of([]byte("(|)*+?{}.$")...),
		"[\\]\\n\\101]": class.Of(']', '\n', 'A'),
		"[\\r]":         class.Of('r'),
		"[^\\0-\\377]":  {},
		"[\\0-\\377]":   full,
		"[[]":           class.Of('['),
	} {
		r := ere.Re{Kind: set, Set: want}
		parses(t, s, r)
		parses(t, "x"+s+"y", row(cat, of("x"), r, of("y")))
		parses(t, s+s+"*|("+s+")", tree(alt, tree(cat, r, tree(star, r)), r))
	}
	for _, s := range []string{"[", "[]", "[^", "[^]", "[a", "[a-", "[z-a]", "[a-[:digit:]]", "[[:word:]]", "[[:digit:]", "[a\\", "[\\]", "[[:"} {
		refuses(t, s, 0, api.ErrRegex)
		refuses(t, "xy"+s, 2, api.ErrRegex)
		refuses(t, "(a|"+s, 3, api.ErrRegex)
		refuses(t, "[a]*"+s, 4, api.ErrRegex)
	}
}

// 9.2: a `\` and each byte: seven letters stand for others, octal digits for a byte, all others for themselves.
func TestParseEscapes(t *testing.T) {
	letters := map[byte]string{'n': "\x0a", 't': "\x09", 'r': "\x0d", 'f': "\x0c", 'v': "\x0b", 'a': "\x07", 'b': "\x08"}
	for b := range 256 {
		x := string([]byte{byte(b)})
		want, is := letters[byte(b)]
		switch {
		case is:
		case b >= '0' && b <= '7':
			want = string([]byte{byte(b - '0')})
		default:
			want = x
		}
		parses(t, "\\"+x, of(want))
		parses(t, "\\"+x+"q", tree(cat, of(want), of("q")))
		parses(t, "(\\"+x+")+|\\"+x, tree(alt, tree(plus, of(want)), of(want)))
	}
	for s, place := range map[string]int{"\\": 1, "a\\": 2, "\\\\\\": 3, "(a|\\": 4, "a*\\": 3, "\\1\\": 3, "[a]\\": 4} {
		refuses(t, s, place, api.ErrRegex)
	}
}

// 9.2: one to three octal digits are a byte, modulo 256; a fourth one stands for itself.
func TestParseOctal(t *testing.T) {
	for n := range 512 {
		want := of(string([]byte{byte(n % 256)}))
		for width := 1; width <= 3; width++ {
			s := strconv.FormatInt(int64(n), 8)
			if len(s) > width {
				continue
			}
			s = "\\" + strings.Repeat("0", width-len(s)) + s
			parses(t, s, want)
			parses(t, s+"8", tree(cat, want, of("8")))
			parses(t, s+"a", tree(cat, want, of("a")))
			parses(t, s+"*", tree(star, want))
			parses(t, s+s, tree(cat, want, want))
			if width == 3 {
				parses(t, s+"0", tree(cat, want, of("0")))
				parses(t, s+"777", row(cat, want, of("7"), of("7"), of("7")))
			}
		}
	}
	parses(t, "\\400", of("\x00"))
	parses(t, "\\777", of("\xff"))
	parses(t, "\\8\\9", tree(cat, of("8"), of("9")))
	parses(t, "\\x41", row(cat, of("x"), of("4"), of("1")))
}

// 9.2: what is wrong first, from the left, is told; a tree that is not right only where all else is in order.
func TestParseFirstError(t *testing.T) {
	open := strings.Repeat("(", 10)
	for s, place := range map[string]int{
		"*)":                                 0,
		"a)*":                                1,
		"a|*)":                               2,
		"(a{51}":                             2,
		"(*a":                                1,
		"[z-a](":                             0,
		"a[z-a](":                            1,
		"(a[z-a]":                            2,
		"(a{2,1}[":                           2,
		"()[":                                1,
		"a||b)":                              2,
		"*" + open + "(":                     0,
		"[" + open + "(":                     0,
		open + "*(":                          10,
		open + "a{x}(":                       11,
		open + "a)))))))))))":                21,
		strings.Repeat("a", 401) + ")":       401,
		strings.Repeat("a", 401) + "(":       402,
		strings.Repeat("a", 401) + "\\":      402,
		strings.Repeat("a", 401) + "[":       401,
		strings.Repeat("a", 401) + "|":       402,
		strings.Repeat("a", 401) + "{3,2}":   401,
		strings.Repeat("a|", 401) + "|":      802,
		"a" + strings.Repeat("*", 40) + ")":  41,
		"a" + strings.Repeat("?", 40) + "(b": 43,
		"a{50}{50}{50}{51}":                  13,
		"(a{50}){50}b{":                      12,
	} {
		refuses(t, s, place, api.ErrRegex)
	}
	refuses(t, strings.Repeat("a", 401)+open+"(", 411, api.ErrDeep)
	refuses(t, "a"+strings.Repeat("*", 40)+open+"(", 51, api.ErrDeep)
	refuses(t, open+"(*", 10, api.ErrDeep)
	refuses(t, open+"(\\", 10, api.ErrDeep)
}

// 9.2: where all is read and the tree is not right the place is 0.
func TestParseNotRight(t *testing.T) {
	for _, s := range []string{
		strings.Repeat("a", 401),
		strings.Repeat("a|", 400) + "a",
		strings.Repeat("(a)", 401),
		strings.Repeat("a", 200) + "|" + strings.Repeat("b", 201),
		"(" + strings.Repeat("a", 401) + ")",
		strings.Repeat("a{0}", 401),
		"a" + strings.Repeat("*", 40),
		"x|(a" + strings.Repeat("+", 20) + ")" + strings.Repeat("?", 20),
		"(a" + strings.Repeat("*", 39) + "b)*",
		"a" + strings.Repeat("*", 39) + "b",
		strings.Repeat("^", 401),
	} {
		refuses(t, s, 0, api.ErrRegex)
	}
	// One leaf, or one sign, less.
	for s, n := range map[string]int{
		strings.Repeat("a", 400):                                         400,
		strings.Repeat("a|", 399) + "a":                                  400,
		strings.Repeat("(a)", 400):                                       400,
		strings.Repeat("a", 200) + "|" + strings.Repeat("b", 200):        400,
		strings.Repeat("a{0}", 400):                                      400,
		"a" + strings.Repeat("*", 39):                                    1,
		"b|a" + strings.Repeat("*", 39):                                  2,
		"a" + strings.Repeat("*", 38) + "b":                              2,
		"x|(a" + strings.Repeat("+", 20) + ")" + strings.Repeat("?", 19): 2,
		"(a" + strings.Repeat("*", 37) + "b)*":                           2,
	} {
		if r, at, e := ere.Parse(s); e != api.OK || at != 0 || !ere.Right(r) || ere.Sets(r) != n || leavesOf(r) != n {
			t.Errorf("9.2: %.80q: %.300s, %d, %d, want %d leaves", s, told(r), at, e, n)
		}
	}
}

// R1: long texts come to an end, too, and tell their first error.
func TestParseLongTexts(t *testing.T) {
	const n = 1 << 16
	for s, place := range map[string]int{
		strings.Repeat("a", n):                           0,
		strings.Repeat("a|", n) + "a":                    0,
		strings.Repeat("a|", n):                          2 * n,
		"a" + strings.Repeat("*", n):                     0,
		"a" + strings.Repeat("{50}", n):                  0,
		"a" + strings.Repeat("{50}", n) + "{":            4*n + 1,
		"a" + strings.Repeat("*", n) + ")":               n + 1,
		strings.Repeat("(a{50}){50}", n):                 0,
		strings.Repeat("[a-z]", n):                       0,
		strings.Repeat("\\101", n) + "\\":                4*n + 1,
		strings.Repeat("*", n):                           0,
		"[" + strings.Repeat("a", n):                     0,
		"[[:" + strings.Repeat("a", n) + ":]]":           0,
		"a{" + strings.Repeat("0", n) + "}":              1,
		strings.Repeat("((((((((((a))))))))))", n) + "(": 21*n + 1,
	} {
		refuses(t, s, place, api.ErrRegex)
	}
	parses(t, "a"+strings.Repeat("{1}", n), of("a"))
	parses(t, "a"+strings.Repeat("{50}", n)+"{0}", ere.Re{})
	parses(t, "((((((((((a"+strings.Repeat("*", n)+"))))))))))"+strings.Repeat("{0}", n), ere.Re{})
}

// W4: every text is told as a right tree, or refused with a place in it, or just behind.
func TestEveryTextIsToldOrRefused(t *testing.T) {
	pick := rand.New(rand.NewSource(92))
	counts := map[api.Errno]int{}
	for range 60000 {
		s := pickedText(pick)
		r, at, e := ere.Parse(s)
		counts[e]++
		switch {
		case e == api.OK && (at != 0 || !ere.Right(r) || !plainRight(r)):
			t.Fatalf("9.4: %q: %s at %d", s, told(r), at)
		case e != api.OK && (at < 0 || at > len(s) || !same(r, ere.Re{})):
			t.Fatalf("9.2: %q: %s, %d at %d", s, told(r), e, at)
		case e != api.OK && e != api.ErrRegex && e != api.ErrDeep:
			t.Fatalf("9.2: %q: %d", s, e)
		}
	}
	if counts[api.OK] < 10000 || counts[api.ErrRegex] < 10000 || counts[api.ErrDeep] < 50 {
		t.Errorf("texts were read or refused: %v", counts)
	}
}

// pickedText puts together pieces of any kind, most of them such as are read.
func pickedText(pick *rand.Rand) string {
	pieces := []string{"a", "b", ".", "^", "$", "(", ")", "|", "*", "+", "?", "{2}", "{0}", "{0,1}", "{1,}", "{,1}", "{50}", "{51}", "{", "}", "[", "]", "[a-c]", "[^\\n]", "[z-a]", "\\", "\\n", "\\101", "\\4", "\\(", "(a|b)", "(^a)*", "((((((((((", "\xff"}
	good := []string{"a", "b", "(a|b)", "[ab]", "a*", "b+", "\\*", ".", "(ab)?", "a{2,3}", "(^|a)", "$"}
	var s strings.Builder
	rough := pick.Intn(3)
	for range pick.Intn(9) {
		switch {
		case rough > 0 && pick.Intn(4) == 0:
			s.WriteByte(byte(pick.Intn(256)))
		case rough > 1:
			s.WriteString(pieces[pick.Intn(len(pieces))])
		default:
			s.WriteString(good[pick.Intn(len(good))])
		}
	}
	return s.String()
}
