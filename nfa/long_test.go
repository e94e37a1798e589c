package nfa_test

import (
	"slices"
	"strings"
	"testing"
	"time"

	"tailrace/nfa"
)

const long = 1 << 19

// atOnce wants something to end: with backing up it would take hours, or ages.
func atOnce(t *testing.T, name string, do func()) {
	t.Helper()
	ended := make(chan int)
	go func() {
		defer close(ended)
		do()
	}()
	select {
	case <-ended:
	case <-time.After(time.Minute):
		t.Fatalf("10.3: %s does not end", name)
	}
}

// asked asks all that a machine tells of a text.
func asked(m *nfa.Machine, text string, at int) (end, first, behind int, all []complex128) {
	end, first, behind = none, none, none
	if place, ok := m.At(text, at); ok {
		end = place
	}
	if i, j, ok := m.Find(text, 0); ok {
		first, behind = i, j
	}
	return end, first, behind, m.All(text)
}

// 10.3: what makes one that backs up try ages of ways over a row of a byte, as the end does not match.
func TestNoWaysWithoutEnd(t *testing.T) {
	row := strings.Repeat("a", long)
	for _, re := range []string{"(a*)*b", "(a+)+b", "(a|a)*b", "(a|aa)+b", "(a?a?)*b", "((a*)*)*b", "(a*a*)+b", "a*a*a*a*a*b", "(.*)(.*)(.*)(.*)b", "(a|a|a|a|aa)*(b|c)", "^(a+)+$b", "([ab]*a)*c", "(a?){50}(a*)*[^a]"} {
		m := made(t, re)
		atOnce(t, re, func() {
			end, first, behind, all := asked(m, row, 0)
			if end != none || first != none || behind != none || all != nil || m.Is(row) {
				t.Errorf("10.3: %q: %d, %d, %d, %d matches", re, end, first, behind, len(all))
			}
		})
	}
}

// 10.3: the same where the end does match.
func TestNoWaysToTheEnd(t *testing.T) {
	text := "c" + strings.Repeat("a", long) + "b"
	for _, re := range []string{"(a*)*b", "(a+)+b", "(a|a)*b", "(a|aa)+b", "((a*)*)*b", "(a*a*)+b", "(a|a|a|a|aa)*(b|c{9})", "(a+)+b$", "a{2,}b"} {
		m := made(t, re)
		atOnce(t, re, func() {
			end, first, behind, all := asked(m, text, 1)
			if end != long+2 || first != 1 || behind != long+2 || !slices.Equal(all, []complex128{complex(1, long+2)}) || !m.Is(text) {
				t.Errorf("10.3: %q: %d, %d, %d, %v", re, end, first, behind, all)
			}
		})
	}
}

// 10.3: as many that may be left out as must come: of great machines, over a text that is not theirs.
func TestNoWaysThroughRepeats(t *testing.T) {
	for re, most := range map[string]int{"(a?){10}a{10}": 20, "(a?){25}a{25}": 50, "(a?){50}a{50}": 100} {
		m := made(t, re)
		atOnce(t, re, func() {
			text := strings.Repeat("a", 40000)
			end, first, behind, all := asked(m, text, 5)
			if end != 5+most || first != 0 || behind != most || len(all) != 40000/most {
				t.Errorf("10.3: %s: %d, %d, %d, %d matches", re, end, first, behind, len(all))
			}
		})
	}
	for _, re := range []string{"((a{20}){19})*b", "((a?){20}){19}b", "(" + strings.Repeat("a|", 398) + "a)*b", "(((a*b?){4}){49})c"} {
		m := made(t, re)
		atOnce(t, re, func() {
			text := strings.Repeat("a", 40000)
			end, first, behind, all := asked(m, text, 0)
			if end != none || first != none || behind != none || all != nil || m.Is(text) {
				t.Errorf("10.3: %.40q: %d, %d, %d, %d matches", re, end, first, behind, len(all))
			}
		})
	}
}

// 10.3: at each place one might begin that goes on to the text's end, and none ends: from one place after the other it would
// take the text's bytes times the text's bytes.
func TestNoWayBackToTheNextStart(t *testing.T) {
	text := strings.Repeat("a", long)
	for _, re := range []string{"a*b", "[ab]*c", "a.*b", ".*b", "(^b|a)+c", "a+$b"} {
		m := made(t, re)
		atOnce(t, re, func() {
			if i, j, ok := m.Find(text, 0); ok || m.Is(text) {
				t.Errorf("10.3: %q: %d, %d", re, i, j)
			}
			if i, j, ok := m.Find(text+text, long/2); ok {
				t.Errorf("10.3: %q: %d, %d", re, i, j)
			}
		})
	}
	m := made(t, "a+$|b")
	atOnce(t, "a+$|b", func() {
		isFound(t, "a+$|b", m, text+"bc", 0, long, long+1)
		isFound(t, "a+$|b", m, text, 9, 9, long)
	})
}

// 10.3: behind each short match a longer one might end at the text's end, and none does: nothing of that is gone over again.
func TestNoWayBackToTheLastEnd(t *testing.T) {
	text := strings.Repeat("a", long)
	for _, re := range []string{"a*b|a", "a(a*b)?", "a|a+c|a+b", "(aa*b|a)", "a(.*[^a])?", "aa*$b|a"} {
		m := made(t, re)
		atOnce(t, re, func() {
			all := m.All(text)
			if len(all) != long || all[0] != 1i || all[long-1] != complex(long-1, long) {
				t.Errorf("10.3: %q: %d matches", re, len(all))
			}
		})
	}
	m := made(t, "(a*b)?")
	atOnce(t, "(a*b)?", func() {
		if all := m.All(text); len(all) != long+1 || all[0] != 0 || all[long] != complex(long, long) {
			t.Errorf("10.3: (a*b)?: %d matches", len(all))
		}
	})
	m = made(t, "(ab)*c|a|b")
	atOnce(t, "(ab)*c|a|b", func() {
		if all := m.All(strings.Repeat("ab", long/2)); len(all) != long {
			t.Errorf("10.3: (ab)*c|a|b: %d matches", len(all))
		}
	})
}

// 10.3: a match that is near is told at once, however long the text: asked anew behind each, it takes no more than the text.
func TestNearMatches(t *testing.T) {
	text := strings.Repeat("ab", long/2)
	m := made(t, "b|c.*|^a")
	atOnce(t, "b|c.*|^a", func() {
		n := 0
		for start, end, ok := m.Find(text, 0); ok; start, end, ok = m.Find(text, end) {
			n++
			if at, is := m.At(text, start); !is || at != end {
				t.Errorf("10.2: At(%d): %d, want %d", start, at, end)
			}
		}
		if n != long/2+1 {
			t.Errorf("10.2: %d matches", n)
		}
	})
}
