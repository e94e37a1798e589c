package ere_test

import (
	"strings"
	"testing"

	"tailrace/api"
	"tailrace/ere"
)

// shapes are texts, many of them with parts that stand at one place of the text and at several of the tree.
func shapes() []string {
	return []string{"", "a", "abc", "a|b|c", "(a|b)*c", "(ab){2}", "(ab){2,4}", "(ab){1,}", "(a|b*){3}{2}", "((ab){2}c){2}", "(^a$){2}|b{3}", "a{0}b{1}", "(a{50}){8}", "[ab]{3}"}
}

// parts tells all parts of a tree, by their addresses.
func parts(r *ere.Re) []*ere.Re {
	l := []*ere.Re{r}
	for i := range r.Kids {
		l = append(l, parts(&r.Kids[i])...)
	}
	return l
}

// R2: no two lists of an answer share any, nor do those of two answers.
func TestParsedSharesNothing(t *testing.T) {
	seen := map[*ere.Re]int{}
	for k, s := range append(shapes(), shapes()...) {
		r, _, e := ere.Parse(s)
		if e != api.OK {
			t.Fatalf("9.2: %q: %d", s, e)
		}
		n := len(seen)
		l := parts(&r)
		for _, p := range l {
			seen[p] = k
		}
		if len(seen) != n+len(l) {
			t.Errorf("R2: %q: %d parts, %d of them new", s, len(l), len(seen)-n)
		}
	}
}

// R2: each part may be changed, and each list appended to, and no other part is.
func TestParsedIsItsOwners(t *testing.T) {
	for _, s := range shapes() {
		want, _, _ := ere.Parse(s)
		wanted := parts(&want)
		for k := range min(len(wanted), 40) {
			r, _, _ := ere.Parse(s)
			p := parts(&r)[k]
			room := append(p.Kids, of("q"))
			room[len(room)-1].Kind = 77
			if !same(r, want) {
				t.Fatalf("R2: %q: part %d: what is appended turns %s", s, k, told(r))
			}
			p.Kind += 20
			p.Set[2] ^= 5
			changed := 0
			for i, q := range parts(&r) {
				if w := wanted[i]; q.Kind != w.Kind || q.Set != w.Set {
					changed++
				}
			}
			if changed != 1 {
				t.Fatalf("R2: %q: part %d: %d are changed", s, k, changed)
			}
		}
		if again, _, _ := ere.Parse(s); !same(again, want) {
			t.Errorf("R4: %q: %s", s, told(again))
		}
	}
}

// R2: a tree that is handed in is not changed, nor is its lists' spare room.
func TestTreesStay(t *testing.T) {
	for _, s := range shapes() {
		r, _, _ := ere.Parse(s)
		room := with(r)
		want := with(r)
		right, n, text := ere.Right(room), ere.Sets(room), ere.Print(room)
		if !right || n != leavesOf(r) || text != ere.Print(r) || strings.Contains(text, "Q") {
			t.Errorf("9.3: %q with spare room: %v, %d, %q", s, right, n, text)
		}
		if !sameRoom(room, want) {
			t.Errorf("R2: %q was changed", s)
		}
	}
}

// with tells the same tree with spare room behind its kids, and something in it.
func with(r ere.Re) ere.Re {
	kids := make([]ere.Re, 0, len(r.Kids)+2)
	for _, kid := range r.Kids {
		kids = append(kids, with(kid))
	}
	n := len(kids)
	r.Kids = append(kids, of("Q"), tree(55))[:n]
	return r
}

func sameRoom(a, b ere.Re) bool {
	return same(a, b) && sameLists(a.Kids[:cap(a.Kids)], b.Kids[:cap(b.Kids)])
}

func sameLists(a, b []ere.Re) bool {
	if len(a) != len(b) {
		return false
	}
	for i := range a {
		if !same(a[i], b[i]) || cap(a[i].Kids) > 0 && !sameRoom(a[i], b[i]) {
			return false
		}
	}
	return true
}
