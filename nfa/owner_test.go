package nfa_test

import (
	"slices"
	"strings"
	"sync"
	"testing"

	"tailrace/ere"
	"tailrace/nfa"
)

// with tells the same tree with spare room behind its kids, and something in it.
func with(r ere.Re) ere.Re {
	kids := make([]ere.Re, 0, len(r.Kids)+2)
	for _, kid := range r.Kids {
		kids = append(kids, with(kid))
	}
	n := len(kids)
	r.Kids = append(kids, of("Q"), tree(ere.Plus, of("R")))[:n]
	return r
}

// all tells each kid of a tree, and its spare room, by their addresses.
func all(r *ere.Re) []*ere.Re {
	l := []*ere.Re{r}
	room := r.Kids[:cap(r.Kids)]
	for i := range room {
		l = append(l, all(&room[i])...)
	}
	return l
}

// R2: a tree that is handed in is not changed, nor is its spare room; what is done to it later does not reach the machine.
func TestTreesAreNotKept(t *testing.T) {
	for _, s := range []string{"a", "ab|c*", "(a|b+)*c?^?$?", "(ab){3}", "", "^$", "[ab]+(b|c)", "((a*)+)?b"} {
		want, _, _ := ere.Parse(s)
		given, as := with(want), with(want)
		m := compiled(t, given)
		parts, others := all(&given), all(&as)
		if len(parts) != len(others) {
			t.Fatalf("R2: %q: %d parts, %d of them were given", s, len(parts), len(others))
		}
		for i, p := range parts {
			if q := others[i]; p.Kind != q.Kind || p.Set != q.Set || len(p.Kids) != len(q.Kids) {
				t.Errorf("R2: %q: part %d was changed", s, i)
			}
		}
		for _, p := range parts {
			p.Kind, p.Set, p.Kids = 77, of("z").Set, nil
		}
		for _, text := range shortTexts("abc", 4) {
			agrees(t, m, want, text)
		}
	}
}

// R2: each answer of All is new memory, its spare room, too.
func TestAnswersAreNew(t *testing.T) {
	m := made(t, "a|b+")
	text := "abbcababcc"
	want := m.All(text)
	l := m.All(text)
	for i := range l[:cap(l)] {
		l[:cap(l)][i] = 77
	}
	if other := m.All(text); !slices.Equal(other, want) {
		t.Errorf("R2: %v, want %v", other, want)
	}
	more := m.All("xxxxxxxxb")
	if !slices.Equal(more, []complex128{8 + 9i}) || !slices.Equal(want, []complex128{0 + 1i, 1 + 3i, 4 + 5i, 5 + 6i, 6 + 7i, 7 + 8i}) {
		t.Errorf("R2: %v, %v", more, want)
	}
}

// R3: beside a false all else is zero.
func TestFalseIsZero(t *testing.T) {
	m := made(t, "a$|abc|b^")
	for _, text := range []string{"", "ab", "xxab", "aab", "bbbb"} {
		for from := -1; from <= len(text)+1; from++ {
			isAt(t, "a$|abc|b^", m, text, from, none)
			isFound(t, "a$|abc|b^", m, text, from, none, none)
		}
		isAll(t, "a$|abc|b^", m, text)
	}
}

// R4 and R8: a machine tells the same however often, and whatever it and others were asked ahead.
func TestMachinesAreNotChanged(t *testing.T) {
	res := []string{"a*", "(a|b)*c|b", "^a|b$", "x", "(a?){3}a{3}", ""}
	texts := append(shortTexts("abc", 3), strings.Repeat("ab", 50), "x"+strings.Repeat("a", 100))
	tell := func(m *nfa.Machine) []complex128 {
		var l []complex128
		for _, text := range texts {
			for from := range len(text) + 1 {
				end, ok := m.At(text, from)
				start, behind, found := m.Find(text, from)
				if ok == (found && start == from) && (!ok || end == behind) {
					l = append(l, complex(float64(start), float64(behind)))
				}
			}
			l = append(append(l, -1), m.All(text)...)
		}
		return l
	}
	var want [][]complex128
	for _, s := range res {
		want = append(want, tell(made(t, s)))
	}
	var machines []*nfa.Machine
	for _, s := range res {
		machines = append(machines, made(t, s))
	}
	for range 3 {
		for i, m := range machines {
			if !slices.Equal(tell(m), want[i]) {
				t.Errorf("R4: %q", res[i])
			}
		}
	}
	var group sync.WaitGroup
	for range 4 {
		for i, m := range machines {
			group.Go(func() {
				if !slices.Equal(tell(m), want[i]) {
					t.Errorf("R4: %q, asked at the same time", res[i])
				}
			})
		}
	}
	group.Wait()
}
