package nfa_test

import (
	"math"
	"strings"
	"testing"

	"tailrace/class"
	"tailrace/ere"
)

// endsOf is a regular expression and where At ends from each place of a text.
type endsOf struct {
	re, text string
	ends     []int
}

// endAt wants these ends from each place of each text, and none from outside.
func endAt(t *testing.T, cases ...endsOf) {
	t.Helper()
	for _, c := range cases {
		m := made(t, c.re)
		if len(c.ends) != len(c.text)+1 {
			t.Fatalf("%q over %q has %d places", c.re, c.text, len(c.ends))
		}
		for from, end := range c.ends {
			isAt(t, c.re, m, c.text, from, end)
		}
		for _, from := range []int{-1, -2, math.MinInt, len(c.text) + 1, len(c.text) + 2, math.MaxInt} {
			isAt(t, c.re, m, c.text, from, none)
		}
	}
}

// 10.2: the greatest end of several; none; an empty match; from each place, and outside of all.
func TestAt(t *testing.T) {
	endAt(t,
		endsOf{"a|ab", "abc", []int{2, none, none, none}},
		endsOf{"ab|a", "aab", []int{1, 3, none, none}},
		endsOf{"a|ab|abc|abcd", "abcx", []int{3, none, none, none, none}},
		endsOf{"a(b|bcd)?", "abc", []int{2, none, none, none}},
		endsOf{"(a|ab)(c|bcd)", "abcd", []int{4, none, none, none, none}},
		endsOf{"(a|ab)(bcd|c)?", "abcd", []int{4, none, none, none, none}},
		endsOf{"b*", "abb", []int{0, 3, 3, 3}},
		endsOf{"b+", "abb", []int{none, 3, 3, none}},
		endsOf{"ab", "a", []int{none, none}},
		endsOf{"", "ab", []int{0, 1, 2}},
		endsOf{"", "", []int{0}},
		endsOf{"a?", "", []int{0}},
		endsOf{"a", "", []int{none}},
		endsOf{".{2}", "abc", []int{2, 3, none, none}},
		endsOf{"a{2,3}", "aaaa", []int{3, 4, 4, none, none}},
		endsOf{"a{2,}", "aaaa", []int{4, 4, 4, none, none}},
		endsOf{"a{0,2}b", "aaab", []int{none, 4, 4, 4, none}},
		endsOf{"a*a", "aaab", []int{3, 3, 3, none, none}},
		endsOf{"a*ab?", "aab", []int{3, 3, none, none}},
		endsOf{"(ab|aba)*", "ababa", []int{5, 1, 5, 3, 4, 5}},
	)
}

// 10.1 and 10.2: First is the text's beginning, Last its end, wherever they stand and from wherever it is asked.
func TestAtOfEnds(t *testing.T) {
	endAt(t,
		endsOf{"^", "ab", []int{0, none, none}},
		endsOf{"$", "ab", []int{none, none, 2}},
		endsOf{"^$", "", []int{0}},
		endsOf{"$^", "", []int{0}},
		endsOf{"^$", "a", []int{none, none}},
		endsOf{"^a", "aa", []int{1, none, none}},
		endsOf{"a$", "aa", []int{none, 2, none}},
		endsOf{"a^", "aa", []int{none, none, none}},
		endsOf{"$a", "aa", []int{none, none, none}},
		endsOf{"a^a", "aa", []int{none, none, none}},
		endsOf{"a$a", "aa", []int{none, none, none}},
		endsOf{"^^a$$", "a", []int{1, none}},
		endsOf{"^|b", "abb", []int{0, 2, 3, none}},
		endsOf{"$|b", "abb", []int{none, 2, 3, 3}},
		endsOf{"a^?b", "ab", []int{2, none, none}},
		endsOf{"a$?b", "ab", []int{2, none, none}},
		endsOf{"x(^|y)z", "xyz", []int{3, none, none, none}},
		endsOf{"a($|b)", "aab", []int{none, 3, none, none}},
		endsOf{"a($|b)", "aa", []int{none, 2, none}},
		endsOf{"(a$|ab)c?", "aba", []int{2, none, 3, none}},
		endsOf{"\n^a", "\na", []int{none, none, none}},
		endsOf{"a$\n", "a\n", []int{none, none, none}},
		endsOf{"a$", "a\n", []int{none, none, none}},
	)
}

// 10.1 and 10.2: First and Last within repeats: they can be met once, and as often as one likes there.
func TestAtOfEndsInRepeats(t *testing.T) {
	endAt(t,
		endsOf{"(^a)*", "aa", []int{1, 1, 2}},
		endsOf{"(^a)+", "aa", []int{1, none, none}},
		endsOf{"(^a)?a", "aa", []int{2, 2, none}},
		endsOf{"(a$)*", "aa", []int{0, 2, 2}},
		endsOf{"(a$)+", "aa", []int{none, 2, none}},
		endsOf{"(a$){2}", "aa", []int{none, none, none}},
		endsOf{"(^a){2}", "aa", []int{none, none, none}},
		endsOf{"(^a|b)*", "abb", []int{3, 3, 3, 3}},
		endsOf{"(a|b$)*", "abab", []int{1, 1, 4, 4, 4}},
		endsOf{"(^|a)*", "aa", []int{2, 2, 2}},
		endsOf{"(a|$)+", "aab", []int{2, 2, none, 3}},
		endsOf{"^*a", "aa", []int{1, 2, none}},
		endsOf{"^+a", "aa", []int{1, none, none}},
		endsOf{"^{3}a", "aa", []int{1, none, none}},
		endsOf{"(^*$*)*", "a", []int{0, 1}},
		endsOf{"(^+a$+)+", "a", []int{1, none}},
	)
}

// 10.1 and 10.2: repeats of what may be empty, in one another, too.
func TestAtOfEmptyRepeats(t *testing.T) {
	endAt(t,
		endsOf{"(a*)*", "aab", []int{2, 2, 2, 3}},
		endsOf{"(a*)+", "aab", []int{2, 2, 2, 3}},
		endsOf{"(a?)*", "aab", []int{2, 2, 2, 3}},
		endsOf{"((a*)*)*", "aab", []int{2, 2, 2, 3}},
		endsOf{"((a*)+)?b", "aab", []int{3, 3, 3, none}},
		endsOf{"(a*|b)*", "abab", []int{4, 4, 4, 4, 4}},
		endsOf{"(a*b*)*c", "abbac", []int{5, 5, 5, 5, 5, none}},
		endsOf{"((a*)(b*))*", "abc", []int{2, 2, 2, 3}},
		endsOf{"(a|b{0})*", "aab", []int{2, 2, 2, 3}},
		endsOf{"(a{0})*", "a", []int{0, 1}},
		endsOf{"(a{0})+b", "b", []int{1, none}},
		endsOf{"((a{0}|b)*a)*", "baba", []int{4, 4, 4, 4, 4}},
		endsOf{"(a*)*b", "aaac", []int{none, none, none, none, none}},
		endsOf{"(a?){3}", "aaaa", []int{3, 4, 4, 4, 4}},
		endsOf{"((a?b?){2})*c", "abbbac", []int{6, 6, 6, 6, 6, 6, none}},
	)
}

// 10.2: leftmost, then longest.
func TestFind(t *testing.T) {
	for _, c := range []struct {
		re, text   string
		start, end int
	}{
		{"a|bcd", "abcd", 0, 1},
		{"bcd|a", "xabcd", 1, 2},
		{"b|abcd", "abcx", 1, 2},
		{"b|abcd", "abcd", 0, 4},
		{"c|bc|abcx", "abcd", 1, 3},
		{"bc|abcde|c", "abcdx", 1, 3},
		{"ab|bcdefg|cd", "abcdefg", 0, 2},
		{"b|bc|ab?", "xabc", 1, 3},
		{"[ab]*c|b", "abab", 1, 2},
		{"[ab]*c|b", "ababc", 0, 5},
		{"x|abx?|b+", "aabbb", 1, 3},
		{"(a*)*b", "aaac", none, none},
		{"(a|b)*c|(a|ab)*c", "abc", 0, 3},
		{"[0-9]{2,3}", "a1b12345", 3, 6},
		{"b$", "abab", 3, 4},
		{"^b", "abab", none, none},
		{"a$", "", none, none},
		{"ab", "aaab", 2, 4},
		{"aab", "aaab", 1, 4},
		{"abcabd", "abcabcabd", 3, 9},
	} {
		isFound(t, c.re, made(t, c.re), c.text, 0, c.start, c.end)
	}
}

// 10.2: an empty match ahead of a longer one behind it is the leftmost.
func TestFindOfEmptyMatches(t *testing.T) {
	m := made(t, "b*")
	for from, want := range [][2]int{{0, 0}, {1, 3}, {2, 3}, {3, 3}, {4, 4}, {none, none}} {
		isFound(t, "b*", m, "abba", from, want[0], want[1])
	}
	isFound(t, "^|b+", made(t, "^|b+"), "abb", 0, 0, 0)
	isFound(t, "^|b+", made(t, "^|b+"), "abb", 1, 1, 3)
	isFound(t, "$|bb", made(t, "$|bb"), "abb", 0, 1, 3)
	isFound(t, "$", made(t, "$"), "abb", 0, 3, 3)
	isFound(t, "$", made(t, "$"), "", 0, 0, 0)
	isFound(t, "(ab?)?", made(t, "(ab?)?"), "abab", 0, 0, 2)
}

// 10.2: a place below 0 counts as 0; behind the text's end there is nothing; First stays the text's beginning.
func TestFindPlaces(t *testing.T) {
	for _, from := range []int{0, -1, -9, math.MinInt} {
		isFound(t, "a", made(t, "a"), "ba", from, 1, 2)
		isFound(t, "^a", made(t, "^a"), "aa", from, 0, 1)
		isFound(t, "", made(t, ""), "", from, 0, 0)
		isFound(t, "c", made(t, "c"), "ba", from, none, none)
	}
	isFound(t, "a", made(t, "a"), "aa", 1, 1, 2)
	isFound(t, "a", made(t, "a"), "aa", 2, none, none)
	isFound(t, "^a", made(t, "^a"), "aa", 1, none, none)
	isFound(t, "^", made(t, "^"), "ab", 2, none, none)
	isFound(t, "a*", made(t, "a*"), "aa", 2, 2, 2)
	isFound(t, "$", made(t, "$"), "aa", 2, 2, 2)
	isFound(t, "ab|b", made(t, "ab|b"), "ab", 1, 1, 2)
	for _, re := range []string{"", "a", "a*", "$", "^", "."} {
		for _, from := range []int{3, 4, 1 << 40, math.MaxInt} {
			isFound(t, re, made(t, re), "aa", from, none, none)
		}
		isFound(t, re, made(t, re), "", 1, none, none)
	}
}

// 10.2: is there one from 0 on, wherever it begins?
func TestIs(t *testing.T) {
	for _, c := range []struct {
		re, text string
		want     bool
	}{
		{"b", "aab", true},
		{"b", "aaa", false},
		{"ab$", "abab", true},
		{"$", "aaa", true},
		{"b*", "aaa", true},
		{"", "", true},
		{"a", "", false},
		{"^a", "ba", false},
		{"^b", "ba", true},
		{"a$", "ab", false},
		{"^$", "", true},
		{"^$", "a", false},
		{"b$|c", "ab", true},
		{"abc|x", "ababab", false},
		{"a.*b", "xxaxxbxx", true},
		{"[^\\000-\\377]", "abc", false},
	} {
		if is := made(t, c.re).Is(c.text); is != c.want {
			t.Errorf("10.2: %q: Is(%q): %v", c.re, c.text, is)
		}
	}
	if !made(t, "b").Is(strings.Repeat("a", 1000) + "b") {
		t.Error("10.2: Is: a match at the end alone")
	}
}

// 10.1 and 10.2: each byte is matched by the sets that have it, and by no other.
func TestEachByte(t *testing.T) {
	var b strings.Builder
	for x := range 256 {
		b.WriteByte(byte(x))
	}
	every := b.String()
	dot := made(t, ".")
	for x := range 256 {
		z := complex(float64(x), float64(x+1))
		one := class.Of(byte(x))
		m := compiled(t, ere.Re{Kind: ere.Set, Set: one})
		isAll(t, "one byte", m, every, z)
		isAll(t, "one byte quoted", made(t, ere.Quote(every[x:x+1])), every, z)
		isAt(t, "all bytes but one", compiled(t, tree(ere.Star, ere.Re{Kind: ere.Set, Set: one.Not()})), every, 0, x)
		isAt(t, ".", dot, every, x, x+1)
	}
	isFound(t, ".*", made(t, ".*"), every, 0, 0, 256)
	isFound(t, "all bytes in a row", made(t, ere.Quote(every)), "\x00"+every, 0, 1, 257)
	isFound(t, "\\303.", made(t, "\\303."), "eé", 0, 1, 3)
	isAll(t, ".", dot, "é\xff", 0+1i, 1+2i, 2+3i)
}
