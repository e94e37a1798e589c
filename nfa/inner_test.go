package nfa

import (
	"strings"
	"testing"

	"tailrace/api"
	"tailrace/ere"
)

// count tells how many parts a tree has, signs right above one another as one.
func count(r ere.Re) int {
	n := 1
	if isSign(r.Kind) && isSign(r.Kids[0].Kind) {
		n = 0
	}
	for _, kid := range r.Kids {
		n += count(kid)
	}
	return n
}

// 10.3: a machine has no more parts than its tree, and one for the end, whichever way it goes.
func TestParts(t *testing.T) {
	for _, s := range []string{"", "a", "a|b|c", "(ab*c|d+)?", "(a?){50}a{50}", "((a{20}){20})*", "a{10,20}", "^a$|b*", "(((a*)+)?)*b", "a" + strings.Repeat("*", 39), "(a" + strings.Repeat("+", 30) + "){50}", "((a*b+c?){50}){2}"} {
		r, _, _ := ere.Parse(s)
		m, e := Compile(r)
		if e != api.OK || s != "" && r.Kind == ere.Empty {
			t.Fatalf("10.1: %q: %d", s, e)
		}
		for _, p := range []program{m.ahead, m.back} {
			if len(p.parts) > count(r)+1 {
				t.Errorf("10.3: %q: %d parts of a tree of %d", s, len(p.parts), count(r))
			}
		}
	}
}

// 10.3: at each place each part stands for one match at most, the oldest; they are in order.
func TestEachPartOnce(t *testing.T) {
	text := strings.Repeat("aab", 30) + "c"
	for _, s := range []string{"a*", "(a*)*b", "(a|b|ab)*c", "((a?b?){5})*c", "(^a|b$|.)*c", "(a|a|a)+(b|b)?", "(a|a)b", "((a|a)a|a)b", "a(b|b)"} {
		m, _, _ := New(s)
		for _, w := range []*walk{newWalk(&m.ahead, text, 0), newWalk(&m.back, text, len(text))} {
			for more := true; more; more = w.step() {
				w.begin()
				once(t, s, w)
			}
		}
	}
}

func once(t *testing.T, s string, w *walk) {
	t.Helper()
	seen := map[int]int{}
	for i, at := range w.list {
		seen[at.part]++
		if i == 0 {
			continue
		}
		ahead := w.list[i-1].from
		if ahead > at.from && !w.back || ahead < at.from && w.back {
			t.Errorf("10.3: %q at %d: a match that began at %d stands ahead of one from %d", s, w.place, ahead, at.from)
		}
	}
	if len(seen) != len(w.list) || len(seen) > len(w.parts) {
		t.Errorf("10.3: %q at %d: %d parts stand for %d matches", s, w.place, len(seen), len(w.list))
	}
}
