package class_test

import (
	"math"
	"strconv"
	"strings"
	"testing"

	"tailrace/class"
)

// reads wants a set of Bracket, which ends with the text: here, with more behind it and with more ahead of it; cut off
// anywhere nothing is told.
func reads(t *testing.T, s string, want class.Set) {
	t.Helper()
	for _, ahead := range []string{"", "^", "]", "[:alpha:]", "\\", "x[", "\xff"} {
		for _, behind := range []string{"", "]", "a", "-z]", "[:alpha:]]", "\\", ":]", "7"} {
			set, end, ok := class.Bracket(ahead+s+behind, len(ahead))
			if !ok || set != want || end != len(ahead)+len(s) {
				t.Errorf("8.2: %q between %q and %q: %x, %d, %v, want %x", s, ahead, behind, set, end, ok, want)
			}
		}
	}
	for k := range len(s) {
		refuses(t, s[:k], 0)
	}
}

// refuses wants nothing of Bracket.
func refuses(t *testing.T, s string, at int) {
	t.Helper()
	if set, end, ok := class.Bracket(s, at); ok || end != 0 || set != (class.Set{}) {
		t.Errorf("8.2: %.60q at %d: %x, %d, %v", s, at, set, end, ok)
	}
}

// readsAll wants sets, and then the same ones of all other bytes where a `^` stands ahead.
func readsAll(t *testing.T, l map[string]class.Set) {
	t.Helper()
	for s, want := range l {
		reads(t, s, want)
		if s[0] != '^' {
			reads(t, "^"+s, but(want))
		}
	}
}

// refusesAll wants nothing of texts, nor where a `^` stands ahead, nor where more items do.
func refusesAll(t *testing.T, l ...string) {
	t.Helper()
	for _, s := range l {
		for _, ahead := range []string{"", "^", "b", "^b", "\\]", "[:digit:]", "]"} {
			refuses(t, ahead+s, 0)
		}
		refuses(t, "]^-"+s, 3)
	}
}

// 8.2: the chapter's examples.
func TestBracketExamples(t *testing.T) {
	for _, c := range []struct {
		s    string
		want class.Set
		end  int
	}{
		{"a-c]x", bytesOf("abc"), 4},
		{"^]a]", but(bytesOf("]a")), 4},
		{"]]", bytesOf("]"), 2},
		{"[:digit:]-]", bytesOf("0123456789-"), 11},
	} {
		if set, end, ok := class.Bracket(c.s, 0); !ok || set != c.want || end != c.end {
			t.Errorf("8.2: %q: %x, %d, %v", c.s, set, end, ok)
		}
	}
	refuses(t, "z-a]", 0)
	refuses(t, "ab", 0)
}

// 8.2 and R5: at each place of a text, and outside it.
func TestBracketAtEachPlace(t *testing.T) {
	const text = "x[a-c]^]]y"
	for at, c := range map[int]struct {
		want class.Set
		end  int
	}{
		0: {bytesOf("x[abc"), 6},
		1: {bytesOf("[abc"), 6},
		2: {bytesOf("abc"), 6},
		3: {bytesOf("-c"), 6},
		4: {bytesOf("c"), 6},
		5: {bytesOf("]^"), 8},
		6: {but(bytesOf("]")), 9},
		7: {bytesOf("]"), 9},
	} {
		if set, end, ok := class.Bracket(text, at); !ok || set != c.want || end != c.end {
			t.Errorf("8.2: at %d: %x, %d, %v", at, set, end, ok)
		}
	}
	for _, at := range []int{8, 9, len(text), len(text) + 1, len(text) + 2, 1000, math.MaxInt, math.MaxInt - 1, -1, -2, -len(text), -1000, math.MinInt} {
		refuses(t, text, at)
	}
	for _, at := range []int{0, 1, -1, 2, -2, math.MaxInt, math.MinInt} {
		refuses(t, "", at)
	}
}

// 8.2: a `^` ahead: all other bytes; elsewhere it is a byte as others are.
func TestBracketOfOthers(t *testing.T) {
	readsAll(t, map[string]class.Set{
		"^a]":         but(bytesOf("a")),
		"^^]":         but(bytesOf("^")),
		"^^^]":        but(bytesOf("^")),
		"^^-a]":       but(bytesOf("^_`a")),
		"^]]":         but(bytesOf("]")),
		"^-]":         but(bytesOf("-")),
		"^\\^]":       but(bytesOf("^")),
		"^[:alpha:]]": but(spans(names["alpha"]...)),
		"^\\0-\\377]": {},
		"a^]":         bytesOf("a^"),
		"]^]":         bytesOf("]^"),
		"-^]":         bytesOf("-^"),
		"\\^]":        bytesOf("^"),
		"\\^a]":       bytesOf("^a"),
		"[:alpha:]^]": with(spans(names["alpha"]...), bytesOf("^")),
		"[-^]":        bytesOf("[\\]^"),
	})
	refusesAll(t, "", "a-^]", "a")
	refuses(t, "^", 1)
	refuses(t, "^", 2)
}

// 8.2: a `]` that is the first thing is an end; the next one ends the set.
func TestBracketFirst(t *testing.T) {
	readsAll(t, map[string]class.Set{
		"]]":          bytesOf("]"),
		"]a]":         bytesOf("]a"),
		"]-]":         bytesOf("]-"),
		"]-a]":        bytesOf("]^_`a"),
		"]-^-]":       bytesOf("]^-"),
		"]-\\]]":      bytesOf("]"),
		"][:digit:]]": bytesOf("]0123456789"),
		"][]":         bytesOf("]["),
		"]\\]]":       bytesOf("]"),
		"\\]]":        bytesOf("]"),
		"\\]-a]":      bytesOf("]^_`a"),
		"\\]-]":       bytesOf("]-"),
	})
	for _, s := range []string{"]", "]a", "]-", "]--]", "]-\\-]", "]-A]", "]-[:digit:]]", "]-[]"} {
		refuses(t, s, 0)
		refuses(t, "^"+s, 0)
	}
	// Behind these a `]` stands that is not the first thing any more.
	for s, end := range map[string]int{"a]]": 2, "^a]]": 3, "]]]": 2, "^]]]": 3, "-]]": 2, "\\n]]": 3, "[:digit:]]]": 10} {
		if _, e, ok := class.Bracket(s, 0); !ok || e != end {
			t.Errorf("8.2: %q: %d, %v, want %d", s, e, ok, end)
		}
	}
}

// 8.2: a `-` first, last, between, and behind a range.
func TestBracketDash(t *testing.T) {
	readsAll(t, map[string]class.Set{
		"-]":          bytesOf("-"),
		"-a]":         bytesOf("-a"),
		"a-]":         bytesOf("-a"),
		"a-c]":        bytesOf("abc"),
		"--]":         bytesOf("-"),
		"---]":        bytesOf("-"),
		"----]":       bytesOf("-"),
		"--0]":        bytesOf("-./0"),
		"--\\060]":    bytesOf("-./0"),
		"+--]":        bytesOf("+,-"),
		"+-\\-]":      bytesOf("+,-"),
		"+--/]":       bytesOf("+,-/"),
		"a-c-]":       bytesOf("abc-"),
		"a-c-f]":      bytesOf("abc-f"),
		"a-c-f-h]":    bytesOf("abc-fgh"),
		"a-c--/]":     bytesOf("abc-./"),
		"a-c---]":     bytesOf("abc-"),
		"a-cd-f]":     bytesOf("abcdef"),
		"a-cx-]":      bytesOf("abcx-"),
		"a\\-c]":      bytesOf("a-c"),
		"\\--/]":      bytesOf("-./"),
		"[:digit:]-]": bytesOf("0123456789-"),
		"-[:digit:]]": bytesOf("0123456789-"),
	})
	refusesAll(t, "a--]", "a-b-", "a-", "-", "a-c--", "a-c--,]", "--", "---", "--,]")
}

// 8.2: ranges from one end to another: of one byte, up, and downwards; a name is no end.
func TestBracketRange(t *testing.T) {
	readsAll(t, map[string]class.Set{
		"a-a]":                 bytesOf("a"),
		"a-b]":                 bytesOf("ab"),
		"a-ab]":                bytesOf("ab"),
		"[-[]":                 bytesOf("["),
		"[-a]":                 bytesOf("[\\]^_`a"),
		"Z-[]":                 bytesOf("Z["),
		"Z-[a]":                bytesOf("Z[a"),
		"Z-[.:]":               bytesOf("Z[.:"),
		"Z-\\[:]":              bytesOf("Z[:"),
		"Z-\\]]":               bytesOf("Z[\\]"),
		"\\\\-\\]]":            bytesOf("\\]"),
		"\\t-\\n]":             bytesOf("\t\n"),
		"\\0-\\3]":             bytesOf("\x00\x01\x02\x03"),
		"\\0-\\377]":           full,
		"\\377-\\377]":         bytesOf("\xff"),
		"\\477-@]":             bytesOf("?@"),
		"a-cb-d]":              bytesOf("abcd"),
		"\x00-\xff]":           full,
		"\x7f-\x80]":           bytesOf("\x7f\x80"),
		"\x80-\xff]":           spans([2]byte{128, 255}),
		"[:digit:]-z]":         bytesOf("0123456789-z"),
		"[:digit:]--/]":        bytesOf("0123456789-./"),
		"[:digit:]-A-C]":       bytesOf("0123456789-ABC"),
		"[:digit:]-[:upper:]]": with(spans(names["digit"]...), spans(names["upper"]...), bytesOf("-")),
	})
	refusesAll(t, "b-a]", "z-a]", "a-\\-]", "\\n-\\t]", "\\377-\\0]", "\xff-\xfe]", "\x80-\x7f]", "a-\\400]", "a-[]")
	refusesAll(t, "a-[:digit:]]", "Z-[:upper:]]", "[-[:alpha:]]", "[-[:]", "\\0-[:]", "\\0-[:", "\\0-[:word:]]", "--[:digit:]]", "[:digit:]--[:digit:]]")
}

// 8.2: from each byte to each other, both told in octal digits.
func TestBracketOfEachRange(t *testing.T) {
	for a := range 256 {
		for b := range 256 {
			s := octal(a) + "-" + octal(b) + "]"
			if b < a {
				refuses(t, s, 0)
				continue
			}
			if set, end, ok := class.Bracket(s, 0); !ok || end != len(s) || set != spans([2]byte{byte(a), byte(b)}) {
				t.Errorf("8.2: %q: %x, %d, %v", s, set, end, ok)
			}
		}
	}
}

func octal(b int) string {
	s := strconv.FormatInt(int64(b), 8)
	return "\\" + strings.Repeat("0", 3-len(s)) + s
}

// 8.2: each of the twelve names, alone and among others.
func TestBracketNames(t *testing.T) {
	for name, of := range names {
		s := "[:" + name + ":]"
		readsAll(t, map[string]class.Set{
			s + "]":           spans(of...),
			s + s + "]":       spans(of...),
			"a" + s + "]":     with(spans(of...), bytesOf("a")),
			s + "a]":          with(spans(of...), bytesOf("a")),
			"\\377" + s + "]": with(spans(of...), bytesOf("\xff")),
			"a-c" + s + "]":   with(spans(of...), bytesOf("abc")),
			"[" + s + "]":     with(spans(of...), bytesOf("[")),
			s + "[:cntrl:]]":  with(spans(of...), spans(names["cntrl"]...)),
		})
		refusesAll(t, s, "[:"+name+"]", "[:"+name+"]]", "[:"+name+":", "[:"+name, "[:"+name+"::]]", "[::"+name+":]]", "[:"+name+": ]]", "[:^"+name+":]]")
		refusesAll(t, "[: "+name+":]]", "[:\\"+name+":]]", "[:"+name+"\\:]]", "[:"+name+":\\]]", "[:"+name+"]:]]")
	}
	refusesAll(t, "[:", "[:]", "[:]]", "[::", "[::]", "[::]]", "[:::]]", "[:a]", "[:a:]]", "[:]:]]", "[:-:]]")
	for _, name := range noNames() {
		refusesAll(t, "[:"+name+":]]")
	}
}

// 8.2: a `[` without a `:` behind it begins no name: it is a byte as others are, and so is a `:`.
func TestBracketWithoutNames(t *testing.T) {
	readsAll(t, map[string]class.Set{
		"[]":            bytesOf("["),
		"[[]":           bytesOf("["),
		"[a]":           bytesOf("[a"),
		"[.]":           bytesOf("[."),
		"[=]":           bytesOf("[="),
		"[.a.]":         bytesOf("[.a"),
		"[=a=]":         bytesOf("[=a"),
		"[-]":           bytesOf("[-"),
		"[^:]":          bytesOf("[^:"),
		"[\\:]":         bytesOf("[:"),
		"\\[:alpha:]":   bytesOf("[:alph"),
		"a:]":           bytesOf("a:"),
		":]":            bytesOf(":"),
		":alpha:]":      bytesOf(":alph"),
		"::]":           bytesOf(":"),
		"[[:digit:]]":   bytesOf("[0123456789"),
		"[[[:digit:][]": bytesOf("[0123456789"),
		"[:digit:]:]":   bytesOf("0123456789:"),
		"[:digit:][a:]": bytesOf("0123456789[a:"),
		"[ :digit:]":    bytesOf("[ :digt"),
	})
}

// 8.2: a `\` and n, t, one to three octal digits, and other bytes; behind three digits stands what is no part of them.
func TestBracketEscape(t *testing.T) {
	readsAll(t, map[string]class.Set{
		"\\n]":          bytesOf("\n"),
		"\\t]":          bytesOf("\t"),
		"\\n\\t\\q]":    bytesOf("\n\tq"),
		"\\nt]":         bytesOf("\nt"),
		"\\\\]":         bytesOf("\\"),
		"\\\\n]":        bytesOf("\\n"),
		"\\]\\[\\-]":    bytesOf("][-"),
		"\\\n]":         bytesOf("\n"),
		"\\\x00]":       bytesOf("\x00"),
		"\\\x80\\\xff]": bytesOf("\x80\xff"),
		"\\0]":          bytesOf("\x00"),
		"\\7]":          bytesOf("\x07"),
		"\\00]":         bytesOf("\x00"),
		"\\77]":         bytesOf("?"),
		"\\000]":        bytesOf("\x00"),
		"\\001]":        bytesOf("\x01"),
		"\\101]":        bytesOf("A"),
		"\\177]":        bytesOf("\x7f"),
		"\\200]":        bytesOf("\x80"),
		"\\377]":        bytesOf("\xff"),
		"\\400]":        bytesOf("\x00"),
		"\\401]":        bytesOf("\x01"),
		"\\541]":        bytesOf("a"),
		"\\777]":        bytesOf("\xff"),
		"\\0000]":       bytesOf("\x000"),
		"\\1018]":       bytesOf("A8"),
		"\\1011]":       bytesOf("A1"),
		"\\7777]":       bytesOf("\xff7"),
		"\\18]":         bytesOf("\x018"),
		"\\128]":        bytesOf("\n8"),
		"\\1a]":         bytesOf("\x01a"),
		"\\1n]":         bytesOf("\x01n"),
		"\\1\\2]":       bytesOf("\x01\x02"),
		"\\8]":          bytesOf("8"),
		"\\9]":          bytesOf("9"),
		"\\89]":         bytesOf("89"),
		"\\x41]":        bytesOf("x41"),
		"\\101-\\103]":  bytesOf("ABC"),
		"\\1-3]":        spans([2]byte{1, '3'}),
		"\\1013-5]":     bytesOf("A345"),
	})
	refusesAll(t, "\\", "a\\", "a-\\", "\\\\\\", "\\1", "\\12", "\\123", "\\n", "\\]", "a\\]", "a-\\]")
}

// 8.2: a `\` and each byte that neither is an octal digit nor n nor t: that byte; and each byte by its octal digits.
func TestBracketEscapeOfEachByte(t *testing.T) {
	for b := range 256 {
		own := string([]byte{byte(b)})
		if !strings.Contains("01234567nt", own) {
			reads(t, "\\"+own+"]", bytesOf(own))
		}
		reads(t, octal(b)+"]", bytesOf(own))
		reads(t, octal(b+256)+"]", bytesOf(own))
		reads(t, octal(b)+"8]", bytesOf(own+"8"))
	}
}

// 8.2: each byte is an end: first, and behind others; `^`, `]`, `[` and `\` have their own tests.
func TestBracketOfEachByte(t *testing.T) {
	for b := range 256 {
		own := string([]byte{byte(b)})
		if !strings.Contains("^]\\", own) {
			reads(t, own+"]", bytesOf(own))
			reads(t, "^"+own+"]", but(bytesOf(own)))
		}
		if !strings.Contains("]\\", own) {
			reads(t, "\\n"+own+"]", bytesOf("\n"+own))
			reads(t, "\\0-"+own+"]", spans([2]byte{0, byte(b)}))
			reads(t, "]"+own+"]", bytesOf("]"+own))
		}
	}
}

// 8.2: bytes above 127 are bytes as others are, whether they make a rune together or none.
func TestBracketOfHighBytes(t *testing.T) {
	readsAll(t, map[string]class.Set{
		"\x80]":               bytesOf("\x80"),
		"\xff\xfe]":           bytesOf("\xfe\xff"),
		"\xc3\xa9]":           bytesOf("\xc3\xa9"),
		"\xe2\x82\xac-\xaf]":  bytesOf("\xe2\x82\xac\xad\xae\xaf"),
		"a\xff-]":             bytesOf("a\xff-"),
		"\xfd-\xff[:blank:]]": bytesOf("\xfd\xfe\xff\t "),
		"\x7f\x80]":           bytesOf("\x7f\x80"),
		"\\\xc3\xa9]":         bytesOf("\xc3\xa9"),
		"\x00]":               bytesOf("\x00"),
		"\xff-\xff]":          bytesOf("\xff"),
	})
	refusesAll(t, "\xff", "\xc3\xa9-\xa8]", "\xff-a]", "\x80-")
}

// 8.2: a `]` that never comes, behind all kinds of items.
func TestBracketWithoutEnd(t *testing.T) {
	refusesAll(t, "", "a", "ab", "a-c", "a-", "-", "[", "[[", "\\]", "\\]\\]", "[:digit:]", "[:digit:]-", "a[:digit:]", "\\n", "\\101", "\x80", "Z-[")
	refuses(t, "]", 0)
	refuses(t, "^]", 0)
	refuses(t, "]a", 0)
	refuses(t, "^]a-c", 0)
	refuses(t, "a]", 2)
	refuses(t, "[a]", 3)
}

// R1 and R7: long texts come to an end, too.
func TestBracketOfLongTexts(t *testing.T) {
	const many = 1 << 18
	for _, c := range []struct {
		item string
		want class.Set
	}{
		{"a", bytesOf("a")},
		{"-", bytesOf("-")},
		{"a-c", bytesOf("abc")},
		{"[", bytesOf("[")},
		{"\\101", bytesOf("A")},
		{"[:digit:]", spans(names["digit"]...)},
	} {
		s := strings.Repeat(c.item, many)
		if set, end, ok := class.Bracket(s+"]", 0); !ok || set != c.want || end != len(s)+1 {
			t.Errorf("8.2: many %q: %x, %d, %v", c.item, set, end, ok)
		}
		refuses(t, s, 0)
	}
	for _, s := range []string{"[:", "[:a", "\\", "-[:", ":"} {
		refuses(t, "["+strings.Repeat(s, many), 0)
	}
}
