package nfa_test

import (
	"slices"
	"strconv"
	"strings"
	"testing"

	"tailrace/api"
	"tailrace/class"
	"tailrace/ere"
	"tailrace/nfa"
)

// none is a place that a test gives where no match is wanted.
const none = -1

// of tells the tree of a set of these bytes.
func of(bytes string) ere.Re { return ere.Re{Kind: ere.Set, Set: class.Of([]byte(bytes)...)} }

// tree tells one of a kind with these kids.
func tree(kind int, kids ...ere.Re) ere.Re { return ere.Re{Kind: kind, Kids: kids} }

// row tells a list joined from the back.
func row(kind int, l ...ere.Re) ere.Re {
	if len(l) == 1 {
		return l[0]
	}
	return tree(kind, l[0], row(kind, l[1:]...))
}

// many tells n of them.
func many(n int, r ere.Re) []ere.Re { return slices.Repeat([]ere.Re{r}, n) }

// signs tells a tree with n of a kind above it.
func signs(n, kind int, r ere.Re) ere.Re {
	for range n {
		r = tree(kind, r)
	}
	return r
}

// told tells a tree in short, for what a test says.
func told(r ere.Re) string {
	s := []string{"Empty", "Set", "Cat", "Alt", "Star", "Plus", "Opt", "First", "Last"}[r.Kind]
	if r.Kind == ere.Set {
		s = "{"
		for b := range 256 {
			if r.Set.Has(byte(b)) && len(s) < 9 {
				s += string([]byte{byte(b)})
			}
		}
		return strconv.Quote(s + "}")
	}
	var l []string
	for _, kid := range r.Kids {
		l = append(l, told(kid))
	}
	return s + "(" + strings.Join(l, " ") + ")"
}

// made tells the machine of a text.
func made(t *testing.T, s string) *nfa.Machine {
	t.Helper()
	m, at, e := nfa.New(s)
	if m == nil || at != 0 || e != api.OK {
		t.Fatalf("10.1: New(%.80q): %v, %d, %d", s, m != nil, at, e)
	}
	return m
}

// compiled tells the machine of a tree.
func compiled(t *testing.T, r ere.Re) *nfa.Machine {
	t.Helper()
	m, e := nfa.Compile(r)
	if m == nil || e != api.OK {
		t.Fatalf("10.1: Compile(%.200s): %v, %d", told(r), m != nil, e)
	}
	return m
}

// isAt wants an end of At, or none.
func isAt(t *testing.T, name string, m *nfa.Machine, text string, from, want int) {
	t.Helper()
	end, ok := m.At(text, from)
	if ok != (want >= 0) || end != max(want, 0) {
		t.Errorf("10.2: %.80s: At(%.80q, %d): %d, %v, want %d", name, text, from, end, ok, want)
	}
}

// isFound wants a match of Find, or none.
func isFound(t *testing.T, name string, m *nfa.Machine, text string, from, start, end int) {
	t.Helper()
	i, j, ok := m.Find(text, from)
	if ok != (start >= 0) || i != max(start, 0) || j != max(end, 0) {
		t.Errorf("10.2: %.80s: Find(%.80q, %d): %d, %d, %v, want %d, %d", name, text, from, i, j, ok, start, end)
	}
}

// isAll wants the matches of All.
func isAll(t *testing.T, name string, m *nfa.Machine, text string, want ...complex128) {
	t.Helper()
	if l := m.All(text); !slices.Equal(l, want) {
		t.Errorf("10.2: %.80s: All(%.80q): %v, want %v", name, text, l, want)
	}
}

// shortTexts tells all texts of these bytes that have at most so many.
func shortTexts(of string, most int) []string {
	l := []string{""}
	for begin := 0; most > 0; most-- {
		end := len(l)
		for _, s := range l[begin:end] {
			for i := range of {
				l = append(l, s+of[i:i+1])
			}
		}
		begin = end
	}
	return l
}
