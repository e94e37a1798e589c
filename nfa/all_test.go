package nfa_test

import (
	"testing"
)

// 10.2: one behind the other; those within, or across the end of, the last one do not count.
func TestAll(t *testing.T) {
	for _, c := range []struct {
		re, text string
		want     []complex128
	}{
		{"a", "aba", []complex128{0 + 1i, 2 + 3i}},
		{"aa", "aaaaa", []complex128{0 + 2i, 2 + 4i}},
		{"aba", "ababababa", []complex128{0 + 3i, 4 + 7i}},
		{"a|ab", "abaab", []complex128{0 + 2i, 2 + 3i, 3 + 5i}},
		{"ab|bcd|d", "abcd", []complex128{0 + 2i, 3 + 4i}},
		{"bcd|cde|e", "abcde", []complex128{1 + 4i, 4 + 5i}},
		{"[a-c]+", "ab-c--a", []complex128{0 + 2i, 3 + 4i, 6 + 7i}},
		{".", "ab", []complex128{0 + 1i, 1 + 2i}},
		{".+", "ab", []complex128{0 + 2i}},
		{"a*b|a", "aabaa", []complex128{0 + 3i, 3 + 4i, 4 + 5i}},
	} {
		isAll(t, c.re, made(t, c.re), c.text, c.want...)
	}
}

// 10.2: First is the beginning of the text, not where the last one ended; Last its end.
func TestAllOfEnds(t *testing.T) {
	isAll(t, "^a", made(t, "^a"), "aaa", 0+1i)
	isAll(t, "(^a)*", made(t, "(^a)*"), "aaa", 0+1i, 2+2i, 3+3i)
	isAll(t, "^", made(t, "^"), "aaa", 0)
	isAll(t, "^|b", made(t, "^|b"), "abb", 0, 1+2i, 2+3i)
	isAll(t, "$", made(t, "$"), "ab", 2+2i)
	isAll(t, "b$|b", made(t, "b$|b"), "bab", 0+1i, 2+3i)
	isAll(t, "b$", made(t, "b$"), "bbb", 2+3i)
	isAll(t, "^|$", made(t, "^|$"), "ab", 0, 2+2i)
	isAll(t, "^$", made(t, "^$"), "", 0)
	isAll(t, "^$", made(t, "^$"), "a")
}

// 10.2: an empty one counts, but just where the last one, that was not empty, ended; behind it goes on one byte further on.
func TestAllOfEmptyMatches(t *testing.T) {
	isAll(t, "", made(t, ""), "ab", 0, 1+1i, 2+2i)
	isAll(t, "x*", made(t, "x*"), "ab", 0, 1+1i, 2+2i)
	isAll(t, "x*", made(t, "x*"), "axb", 0, 1+2i, 3+3i)
	isAll(t, "x*", made(t, "x*"), "xaxx", 0+1i, 2+4i)
	isAll(t, "a*", made(t, "a*"), "baac", 0, 1+3i, 4+4i)
	isAll(t, "a?", made(t, "a?"), "aab", 0+1i, 1+2i, 3+3i)
	isAll(t, "a|b{0}", made(t, "a|b{0}"), "aba", 0+1i, 2+3i)
	isAll(t, "(ab)?", made(t, "(ab)?"), "aabab", 0, 1+3i, 3+5i)
	isAll(t, "ab|b*", made(t, "ab|b*"), "abbc", 0+2i, 2+3i, 4+4i)
}

// 10.2: just behind one that was not empty an empty one does not count, at the text's end either; one that is not empty does.
func TestAllBehindOneThatIsNotEmpty(t *testing.T) {
	isAll(t, "a*", made(t, "a*"), "aa", 0+2i)
	isAll(t, "a*", made(t, "a*"), "ba", 0, 1+2i)
	isAll(t, "a*", made(t, "a*"), "ab", 0+1i, 2+2i)
	isAll(t, "a|$", made(t, "a|$"), "aa", 0+1i, 1+2i)
	isAll(t, "a|$", made(t, "a|$"), "ab", 0+1i, 2+2i)
	isAll(t, "b|$", made(t, "b|$"), "ab", 1+2i)
	isAll(t, "a{0,2}", made(t, "a{0,2}"), "aaa", 0+2i, 2+3i)
}

// 10.2: the empty text: an empty match, or none.
func TestAllOfTheEmptyText(t *testing.T) {
	for _, re := range []string{"", "a*", "^", "$", "^$", "a?|b", "(a*)*"} {
		isAll(t, re, made(t, re), "", 0)
	}
	for _, re := range []string{"a", ".", "a+", "^a", "[^\\000-\\377]"} {
		isAll(t, re, made(t, re), "")
	}
}

// 10.2: none.
func TestAllOfNone(t *testing.T) {
	isAll(t, "b", made(t, "b"), "aaa")
	isAll(t, "ab", made(t, "ab"), "ba")
	isAll(t, "a^", made(t, "a^"), "aaa")
	isAll(t, "a$b", made(t, "a$b"), "aab")
	isAll(t, "(a*)*b", made(t, "(a*)*b"), "aaaac")
}
