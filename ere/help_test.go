package ere_test

import (
	"strconv"
	"strings"
	"testing"

	"tailrace/api"
	"tailrace/class"
	"tailrace/ere"
)

// The document's kinds, by their numbers: a kind that came to stand elsewhere would be told.
const (
	empty = 0
	set   = 1
	cat   = 2
	alt   = 3
	star  = 4
	plus  = 5
	opt   = 6
	first = 7
	last  = 8
)

// full is the set of all bytes.
var full = class.Set{1<<64 - 1, 1<<64 - 1, 1<<64 - 1, 1<<64 - 1}

// of tells the tree of a set of these bytes.
func of(bytes string) ere.Re { return ere.Re{Kind: set, Set: class.Of([]byte(bytes)...)} }

// tree tells one of a kind with these kids.
func tree(kind int, kids ...ere.Re) ere.Re { return ere.Re{Kind: kind, Kids: kids} }

// row tells a list joined from the back, as the document says of Cat and of Alt.
func row(kind int, l ...ere.Re) ere.Re {
	if len(l) == 1 {
		return l[0]
	}
	return tree(kind, l[0], row(kind, l[1:]...))
}

// many tells n of them.
func many(n int, r ere.Re) []ere.Re {
	l := make([]ere.Re, n)
	for i := range l {
		l[i] = copyOf(r)
	}
	return l
}

func copyOf(r ere.Re) ere.Re {
	var kids []ere.Re
	for _, kid := range r.Kids {
		kids = append(kids, copyOf(kid))
	}
	r.Kids = kids
	return r
}

// signs tells a tree with n of a kind above it.
func signs(n, kind int, r ere.Re) ere.Re {
	for range n {
		r = tree(kind, r)
	}
	return r
}

func same(a, b ere.Re) bool {
	if a.Kind != b.Kind || a.Set != b.Set || len(a.Kids) != len(b.Kids) {
		return false
	}
	for i := range a.Kids {
		if !same(a.Kids[i], b.Kids[i]) {
			return false
		}
	}
	return true
}

// told tells a tree in short, for what a test says.
func told(r ere.Re) string {
	s := strconv.Itoa(r.Kind)
	if r.Kind == set {
		s += "{" + strconv.Itoa(r.Set.Count()) + "}"
	}
	if len(r.Kids) == 0 {
		return s
	}
	var l []string
	for _, kid := range r.Kids {
		l = append(l, told(kid))
	}
	return s + "(" + strings.Join(l, " ") + ")"
}

// parses wants a tree of Parse, which is right.
func parses(t *testing.T, s string, want ere.Re) {
	t.Helper()
	r, at, e := ere.Parse(s)
	if e != api.OK || at != 0 || !same(r, want) {
		t.Errorf("9.2: %.80q: %.300s, %d, %d, want %.300s", s, told(r), at, e, told(want))
	}
	if e == api.OK && !ere.Right(r) {
		t.Errorf("9.4: %.80q: %.300s is not right", s, told(r))
	}
}

// refuses wants an error of Parse at a place, and no tree.
func refuses(t *testing.T, s string, place int, want api.Errno) {
	t.Helper()
	if r, at, e := ere.Parse(s); e != want || at != place || r.Kind != 0 || r.Set != (class.Set{}) || r.Kids != nil {
		t.Errorf("9.2: %.80q: %.300s, %d, %d, want %d, %d", s, told(r), at, e, place, want)
	}
}

// leavesOf counts them, and depthOf tells how deep it goes, as the document says it of a kid and of a second one.
func leavesOf(r ere.Re) int {
	if len(r.Kids) == 0 {
		return 1
	}
	n := 0
	for _, kid := range r.Kids {
		n += leavesOf(kid)
	}
	return n
}

func depthOf(r ere.Re) int {
	d := 1
	for i, kid := range r.Kids {
		if i == 1 {
			d = max(d, depthOf(kid))
			continue
		}
		d = max(d, depthOf(kid)+1)
	}
	return d
}

// asTheyAre tells whether the kinds of a tree, their kids and Sets are as the document says.
func asTheyAre(r ere.Re) bool {
	kids := map[int]int{empty: 0, set: 0, cat: 2, alt: 2, star: 1, plus: 1, opt: 1, first: 0, last: 0}
	n, is := kids[r.Kind]
	if !is || n != len(r.Kids) || r.Kind != set && r.Set != (class.Set{}) {
		return false
	}
	for _, kid := range r.Kids {
		if !asTheyAre(kid) {
			return false
		}
	}
	return true
}

func plainRight(r ere.Re) bool {
	return asTheyAre(r) && depthOf(r) <= 40 && leavesOf(r) <= 400
}

// judges wants of Right and Sets what is said of a tree; what is not right is not printed.
func judges(t *testing.T, name string, r ere.Re, right bool, sets int) {
	t.Helper()
	if ere.Right(r) != right || ere.Sets(r) != sets {
		t.Errorf("9.1: %s: %v, %d, want %v, %d", name, ere.Right(r), ere.Sets(r), right, sets)
	}
	if s := ere.Print(r); (s != "") != right {
		t.Errorf("9.3: %s: %.80q", name, s)
	}
}
