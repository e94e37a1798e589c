package nfa_test

import (
	"math/bits"
	"math/rand"
	"regexp"
	"slices"
	"testing"

	"tailrace/api"
	"tailrace/class"
	"tailrace/ere"
	"tailrace/nfa"
)

// plainEnds tells the places at which what a tree matches may end that begins at one of some places: a bit each. It goes down
// the tree, for the whole text at once; it knows no machine.
func plainEnds(r ere.Re, text string, from uint64) uint64 {
	switch r.Kind {
	case ere.Set:
		var to uint64
		for i := range len(text) {
			if from>>i&1 == 1 && r.Set.Has(text[i]) {
				to |= 1 << (i + 1)
			}
		}
		return to
	case ere.Cat:
		return plainEnds(r.Kids[1], text, plainEnds(r.Kids[0], text, from))
	case ere.Alt:
		return plainEnds(r.Kids[0], text, from) | plainEnds(r.Kids[1], text, from)
	case ere.Opt:
		return from | plainEnds(r.Kids[0], text, from)
	case ere.Plus:
		return plainEnds(tree(ere.Star, r.Kids[0]), text, plainEnds(r.Kids[0], text, from))
	case ere.Star:
		for {
			more := from | plainEnds(r.Kids[0], text, from)
			if more == from {
				return from
			}
			from = more
		}
	case ere.First:
		return from & 1
	case ere.Last:
		return from & (1 << len(text))
	}
	return from
}

// plainAt tells the greatest end from a place; none, if there is none.
func plainAt(r ere.Re, text string, from int) int {
	if from < 0 || from > len(text) {
		return none
	}
	return bits.Len64(plainEnds(r, text, 1<<from)) - 1
}

// plainFind asks one place after the other, of the ends that were worked out for each.
func plainFind(ends []int, from int) (start, end int) {
	for start = max(from, 0); start < len(ends); start++ {
		if ends[start] >= 0 {
			return start, ends[start]
		}
	}
	return none, none
}

// plainAll finds one match behind the other.
func plainAll(ends []int) []complex128 {
	var l []complex128
	at, full := 0, none // full: where one that was not empty just ended
	for {
		start, end := plainFind(ends, at)
		if start < 0 {
			return l
		}
		if start < end || start != full {
			l = append(l, complex(float64(start), float64(end)))
		}
		at, full = end, end
		if start == end {
			at, full = end+1, none
		}
	}
}

// agrees holds all that a machine tells of a text against the plain matcher, at each place and outside.
func agrees(t *testing.T, m *nfa.Machine, r ere.Re, text string) {
	t.Helper()
	ends := make([]int, len(text)+1)
	for from := range ends {
		ends[from] = plainAt(r, text, from)
	}
	for from := -2; from <= len(text)+2; from++ {
		if end, ok := m.At(text, from); ok != (plainAt(r, text, from) >= 0) || end != max(plainAt(r, text, from), 0) {
			t.Fatalf("10.2: %s: At(%q, %d): %d, %v, want %d", told(r), text, from, end, ok, plainAt(r, text, from))
		}
		start, end := plainFind(ends, from)
		if i, j, ok := m.Find(text, from); ok != (start >= 0) || i != max(start, 0) || j != max(end, 0) {
			t.Fatalf("10.2: %s: Find(%q, %d): %d, %d, %v, want %d, %d", told(r), text, from, i, j, ok, start, end)
		}
	}
	if start, _ := plainFind(ends, 0); m.Is(text) != (start >= 0) {
		t.Fatalf("10.2: %s: Is(%q): %v", told(r), text, m.Is(text))
	}
	if l, want := m.All(text), plainAll(ends); !slices.Equal(l, want) {
		t.Fatalf("10.2: %s: All(%q): %v, want %v", told(r), text, l, want)
	}
}

// smallTrees tells all trees of so many parts over these leaves.
func smallTrees(leaves []ere.Re, size int) []ere.Re {
	by := [][]ere.Re{nil, leaves}
	for n := 2; n <= size; n++ {
		var l []ere.Re
		for _, kid := range by[n-1] {
			for kind := ere.Star; kind <= ere.Opt; kind++ {
				l = append(l, tree(kind, kid))
			}
		}
		for k := 1; k < n-1; k++ {
			for _, kid := range by[k] {
				for _, other := range by[n-1-k] {
					l = append(l, tree(ere.Cat, kid, other), tree(ere.Alt, kid, other))
				}
			}
		}
		by = append(by, l)
	}
	return by[size]
}

// 10.1 and 10.2: all small trees over all short texts, held against the plain matcher.
func TestAllSmallTrees(t *testing.T) {
	leaves := []ere.Re{{}, of("a"), of("ab"), {Kind: ere.Set}, tree(ere.First), tree(ere.Last)}
	for size, most := range []int{0, 6, 6, 5, 4, 3} {
		texts := shortTexts("ab", most)
		for _, r := range smallTrees(leaves, size) {
			m := compiled(t, r)
			for _, text := range texts {
				agrees(t, m, r, text)
			}
		}
	}
}

// picked tells a tree of n leaves over the bytes a, b and c.
func picked(pick *rand.Rand, n int) ere.Re {
	if n > 1 {
		if pick.Intn(5) == 0 {
			return tree(ere.Star+pick.Intn(3), picked(pick, n))
		}
		k := 1 + pick.Intn(n-1)
		return tree(ere.Cat+pick.Intn(2), picked(pick, k), picked(pick, n-k))
	}
	switch pick.Intn(16) {
	case 0:
		return tree(ere.Empty)
	case 1:
		return tree(ere.First)
	case 2:
		return tree(ere.Last)
	case 3, 4, 5, 6:
		return tree(ere.Star+pick.Intn(3), picked(pick, 1))
	case 7:
		return of("abc")
	case 8, 9:
		return ere.Re{Kind: ere.Set, Set: of("abc"[pick.Intn(3):][:1]).Set.Not()}
	}
	return of("abc"[pick.Intn(3):][:1])
}

func pickedText(pick *rand.Rand, of string, most int) string {
	b := make([]byte, pick.Intn(most+1))
	for i := range b {
		b[i] = of[pick.Intn(len(of))]
	}
	return string(b)
}

// 10.1 and 10.2: picked trees over all short texts of three bytes, and over longer ones that are picked.
func TestPickedTrees(t *testing.T) {
	pick := rand.New(rand.NewSource(101))
	texts := shortTexts("abc", 3)
	for range 1000 {
		r := picked(pick, 1+pick.Intn(14))
		if !ere.Right(r) {
			continue
		}
		m := compiled(t, r)
		for _, text := range texts {
			agrees(t, m, r, text)
		}
		for range 4 {
			agrees(t, m, r, pickedText(pick, "abc", 24))
			agrees(t, m, r, pickedText(pick, "aab", 60))
		}
	}
}

// 10.1 and 10.2: picked great trees.
func TestPickedGreatTrees(t *testing.T) {
	pick := rand.New(rand.NewSource(102))
	right := 0
	for range 120 {
		r := picked(pick, 15+pick.Intn(386))
		if !ere.Right(r) {
			continue
		}
		right++
		m := compiled(t, r)
		for range 5 {
			agrees(t, m, r, pickedText(pick, "abc", 24))
		}
	}
	if right < 60 {
		t.Errorf("%d trees were right", right)
	}
}

// 10.1 and 10.2: picked sets over picked texts of all byte values.
func TestPickedBytes(t *testing.T) {
	pick := rand.New(rand.NewSource(103))
	every := make([]byte, 256)
	for i := range every {
		every[i] = byte(i)
	}
	some := func() ere.Re {
		return ere.Re{Kind: ere.Set, Set: class.Set{pick.Uint64(), pick.Uint64(), pick.Uint64(), pick.Uint64()}}
	}
	for range 300 {
		r := row(ere.Cat, some(), tree(ere.Star+pick.Intn(3), tree(ere.Alt, some(), tree(ere.Cat, some(), some()))), some())
		m := compiled(t, r)
		for range 10 {
			agrees(t, m, r, pickedText(pick, string(every), 50))
		}
	}
}

// 10.1 and 10.2: picked texts of regular expressions, held against the test library's, which tells the leftmost, longest too.
func TestAgainstLibrary(t *testing.T) {
	pick := rand.New(rand.NewSource(104))
	taken := 0
	for range 3000 {
		s, other := pair(pick, 3)
		m, _, e := nfa.New(s)
		if e != api.OK {
			continue
		}
		taken++
		form := regexp.MustCompile("(?s)" + other)
		form.Longest()
		for range 12 {
			text := pickedText(pick, "aabc", 40)
			var want []complex128
			for _, at := range form.FindAllStringIndex(text, -1) {
				want = append(want, complex(float64(at[0]), float64(at[1])))
			}
			isAll(t, s, m, text, want...)
			if len(want) == 0 {
				want = append(want, complex(none, none))
			}
			isFound(t, s, m, text, 0, int(real(want[0])), int(imag(want[0])))
			if m.Is(text) != form.MatchString(text) {
				t.Fatalf("10.2: %s: Is(%q): %v", s, text, m.Is(text))
			}
		}
		if t.Failed() {
			return
		}
	}
	if taken < 2000 {
		t.Errorf("%d were taken", taken)
	}
}

// pair tells a picked regular expression, and the same in the library's dialect, where each piece stands in brackets.
func pair(pick *rand.Rand, depth int) (s, other string) {
	for k := range 1 + pick.Intn(3) {
		if k > 0 && pick.Intn(3) == 0 {
			s, other = s+"|", other+"|"
		}
		atom, as := pairAtom(pick, depth)
		for range pick.Intn(3) {
			sign := []string{"*", "+", "?", "{2}", "{1,2}", "{0,2}", "{1,}", "{3}"}[pick.Intn(8)]
			atom, as = atom+sign, "(?:"+as+")"+sign
		}
		s, other = s+atom, other+as
	}
	return s, other
}

func pairAtom(pick *rand.Rand, depth int) (s, other string) {
	if depth > 0 && pick.Intn(3) == 0 {
		s, other = pair(pick, depth-1)
		return "(" + s + ")", "(?:" + other + ")"
	}
	l := [][2]string{{"a", "a"}, {"b", "b"}, {"c", "c"}, {".", "."}, {"[ab]", "[ab]"}, {"[^a]", "[^a]"}, {"^", `\A`}, {"$", `\z`}}
	k := pick.Intn(len(l))
	return l[k][0], l[k][1]
}
