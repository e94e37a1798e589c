package nfa_test

import (
	"strings"
	"testing"

	"tailrace/api"
	"tailrace/class"
	"tailrace/ere"
	"tailrace/nfa"
)

// The chapter's examples.
func TestExamples(t *testing.T) {
	isFound(t, "a|ab", made(t, "a|ab"), "xab", 0, 1, 3)
	isAt(t, "b*", made(t, "b*"), "ab", 0, 0)
	isFound(t, "^a", made(t, "^a"), "aa", 1, none, none)
	isAll(t, "x*", made(t, "x*"), "axb", 0, 1+2i, 3+3i)
}

// 10.1: a tree of each kind: where it ends from each place of a text.
func TestCompileEachKind(t *testing.T) {
	a, b := of("a"), of("b")
	for _, c := range []struct {
		r    ere.Re
		text string
		ends []int
	}{
		{ere.Re{}, "ab", []int{0, 1, 2}},
		{ere.Re{Kids: []ere.Re{}}, "", []int{0}},
		{a, "aba", []int{1, none, 3, none}},
		{of("ab"), "acb", []int{1, none, 3, none}},
		{ere.Re{Kind: ere.Set}, "a\x00", []int{none, none, none}},
		{ere.Re{Kind: ere.Set, Set: class.Set{}.Not()}, "a\x00", []int{1, 2, none}},
		{tree(ere.Cat, a, b), "aabb", []int{none, 3, none, none, none}},
		{tree(ere.Cat, a, ere.Re{}), "aa", []int{1, 2, none}},
		{tree(ere.Cat, ere.Re{}, a), "aa", []int{1, 2, none}},
		{tree(ere.Cat, ere.Re{Kind: ere.Set}, a), "aa", []int{none, none, none}},
		{tree(ere.Alt, a, b), "acb", []int{1, none, 3, none}},
		{tree(ere.Alt, a, ere.Re{}), "ab", []int{1, 1, 2}},
		{tree(ere.Alt, ere.Re{}, a), "ab", []int{1, 1, 2}},
		{tree(ere.Alt, a, ere.Re{Kind: ere.Set}), "ab", []int{1, none, none}},
		{tree(ere.Star, a), "aaba", []int{2, 2, 2, 4, 4}},
		{tree(ere.Star, ere.Re{}), "ab", []int{0, 1, 2}},
		{tree(ere.Star, ere.Re{Kind: ere.Set}), "ab", []int{0, 1, 2}},
		{tree(ere.Plus, a), "aaba", []int{2, 2, none, 4, none}},
		{tree(ere.Plus, ere.Re{}), "ab", []int{0, 1, 2}},
		{tree(ere.Plus, ere.Re{Kind: ere.Set}), "ab", []int{none, none, none}},
		{tree(ere.Opt, a), "aaba", []int{1, 2, 2, 4, 4}},
		{tree(ere.Opt, ere.Re{}), "ab", []int{0, 1, 2}},
		{tree(ere.Opt, ere.Re{Kind: ere.Set}), "ab", []int{0, 1, 2}},
		{tree(ere.First), "ab", []int{0, none, none}},
		{tree(ere.First), "", []int{0}},
		{tree(ere.Last), "ab", []int{none, none, 2}},
		{tree(ere.Last), "", []int{0}},
	} {
		m := compiled(t, c.r)
		for from, end := range c.ends {
			isAt(t, told(c.r), m, c.text, from, end)
		}
	}
}

// 10.1: a kid that is itself a row, and one that comes first.
func TestCompileRowsInRows(t *testing.T) {
	a, b, c := of("a"), of("b"), of("c")
	for _, r := range []ere.Re{row(ere.Cat, a, b, c), tree(ere.Cat, tree(ere.Cat, a, b), c)} {
		m := compiled(t, r)
		isAll(t, told(r), m, "abcabcb", 0+3i, 3+6i)
		isAll(t, told(r), m, "cbabacbca")
	}
	for _, r := range []ere.Re{row(ere.Alt, a, b, c), tree(ere.Alt, tree(ere.Alt, a, b), c)} {
		isAll(t, told(r), compiled(t, r), "axcb", 0+1i, 2+3i, 3+4i)
	}
}

// 10.1: signs above one another, each with each: any number of any numbers.
func TestCompileSignsInOneAnother(t *testing.T) {
	for outer := ere.Star; outer <= ere.Opt; outer++ {
		for mid := ere.Star; mid <= ere.Opt; mid++ {
			for inner := ere.Star; inner <= ere.Opt; inner++ {
				r := tree(outer, tree(mid, tree(inner, of("a"))))
				nothing, end := 0, 4
				if outer == ere.Plus && mid == ere.Plus && inner == ere.Plus {
					nothing = none
				}
				if outer == ere.Opt && mid == ere.Opt && inner == ere.Opt {
					end = 1
				}
				m := compiled(t, r)
				isAt(t, told(r), m, "baaaa", 0, nothing)
				isAt(t, told(r), m, "", 0, nothing)
				isAt(t, told(r), m, "aaaab", 0, end)
			}
		}
	}
}

// notRight are trees that are not right, at their tops, or below.
func notRight() map[string]ere.Re {
	a := of("a")
	l := map[string]ere.Re{
		"kind -1":             {Kind: -1},
		"kind 9":              {Kind: 9},
		"kind 9 of one":       tree(9, a),
		"Empty of one":        tree(ere.Empty, a),
		"Empty with a Set":    {Kind: ere.Empty, Set: a.Set},
		"Set of one":          {Kind: ere.Set, Set: a.Set, Kids: []ere.Re{a}},
		"Cat of none":         tree(ere.Cat),
		"Cat of one":          tree(ere.Cat, a),
		"Cat of three":        tree(ere.Cat, a, a, a),
		"Cat with a Set":      {Kind: ere.Cat, Set: a.Set, Kids: []ere.Re{a, a}},
		"Alt of none":         tree(ere.Alt),
		"Alt of one":          tree(ere.Alt, a),
		"Alt of three":        tree(ere.Alt, a, a, a),
		"Star of none":        tree(ere.Star),
		"Star of two":         tree(ere.Star, a, a),
		"Plus of none":        tree(ere.Plus),
		"Plus with a Set":     {Kind: ere.Plus, Set: a.Set, Kids: []ere.Re{a}},
		"Opt of none":         tree(ere.Opt),
		"Opt of two":          tree(ere.Opt, a, a),
		"First of one":        tree(ere.First, a),
		"First with a Set":    {Kind: ere.First, Set: a.Set},
		"Last of two":         tree(ere.Last, a, a),
		"one leaf too many":   row(ere.Cat, many(401, a)...),
		"one Alt too many":    row(ere.Alt, many(401, a)...),
		"one sign too deep":   signs(40, ere.Star, a),
		"a kid too deep":      tree(ere.Cat, signs(39, ere.Opt, a), a),
		"a row too deep":      row(ere.Cat, append(many(399, a), signs(40, ere.Plus, a))...),
		"a million signs":     signs(1<<20, ere.Plus, a),
		"2 to the 60th of it": a,
	}
	for range 60 {
		l["2 to the 60th of it"] = tree(ere.Alt, l["2 to the 60th of it"], l["2 to the 60th of it"])
	}
	for kind := ere.Star; kind <= ere.Opt; kind++ {
		kids := make([]ere.Re, 1)
		kids[0] = tree(kind, kids...)
		kids[0].Kids = kids
		l["its own kid, "+told(tree(kind))] = kids[0]
	}
	for kind := ere.Cat; kind <= ere.Alt; kind++ {
		for at := range 2 {
			kids := []ere.Re{a, a}
			kids[at] = ere.Re{Kind: kind, Kids: kids}
			l["its own kids, "+told(tree(kind))+strings.Repeat("'", at)] = kids[at]
		}
	}
	return l
}

// 10.1: a tree that is not right is ErrArg, and there is no machine.
func TestCompileWrong(t *testing.T) {
	refuses := func(name string, r ere.Re) {
		t.Helper()
		if m, e := nfa.Compile(r); m != nil || e != api.ErrArg {
			t.Errorf("10.1: %s: %v, %d", name, m != nil, e)
		}
	}
	for name, r := range notRight() {
		refuses(name, r)
		refuses(name+", first", tree(ere.Cat, r, of("b")))
		refuses(name+", second", tree(ere.Alt, of("b"), r))
		refuses(name+", below a sign", tree(ere.Star, r))
		refuses(name+", in the midst", row(ere.Cat, of("b"), tree(ere.Opt, tree(ere.Alt, r, of("c"))), of("d")))
	}
}

// 10.1: as many leaves and as deep as may be.
func TestCompileGreat(t *testing.T) {
	text := strings.Repeat("a", 400)
	m := compiled(t, row(ere.Cat, many(400, of("a"))...))
	isAt(t, "400 leaves in a row", m, text, 0, 400)
	isAt(t, "400 leaves in a row", m, text, 1, none)
	isFound(t, "400 leaves in a row", m, "b"+text+text, 0, 1, 401)
	isAll(t, "400 leaves in a row", m, "b"+text+text, 1+401i, 401+801i)

	m = compiled(t, row(ere.Alt, append(many(399, of("a")), of("b"))...))
	isAll(t, "400 leaves beside one another", m, "ccbxa", 2+3i, 4+5i)

	m = compiled(t, signs(38, ere.Plus, row(ere.Cat, many(400, of("a"))...)))
	isAt(t, "38 signs above 400 leaves", m, text+text+"aaa", 0, 800)
	isAt(t, "38 signs above 400 leaves", m, text[1:], 0, none)

	m = compiled(t, row(ere.Cat, append(many(200, signs(38, ere.Plus, of("a"))), many(200, signs(38, ere.Opt, of("b")))...)...))
	isAt(t, "400 leaves below 38 signs each", m, text[:201]+strings.Repeat("b", 201), 0, 401)
	isAt(t, "400 leaves below 38 signs each", m, text[:199], 0, none)
	isAt(t, "39 signs", compiled(t, signs(39, ere.Star, of("a"))), text, 0, 400)
	isAt(t, "39 signs", compiled(t, signs(39, ere.Opt, of("a"))), text, 0, 1)

	r := of("a")
	for range 39 {
		r = tree(ere.Cat, r, of("b"))
	}
	m = compiled(t, r)
	isFound(t, "39 first kids", m, "ba"+strings.Repeat("b", 50), 0, 1, 41)
	isFound(t, "39 first kids", m, "ba"+strings.Repeat("b", 38), 0, none, none)
}

// 10.1: what ere.Parse refuses is refused with its error and its place; there is no machine.
func TestNewWrong(t *testing.T) {
	for _, c := range []struct {
		s  string
		at int
		e  api.Errno
	}{
		{"*a", 0, api.ErrRegex},
		{"(a", 2, api.ErrRegex},
		{"a(b", 3, api.ErrRegex},
		{"a||b", 2, api.ErrRegex},
		{"a|", 2, api.ErrRegex},
		{"()", 1, api.ErrRegex},
		{"ab)", 2, api.ErrRegex},
		{"x[z-a]", 1, api.ErrRegex},
		{"a\\", 2, api.ErrRegex},
		{"a{3,2}", 1, api.ErrRegex},
		{"ab{51}", 2, api.ErrRegex},
		{"(a{50}){9}", 0, api.ErrRegex},
		{"a" + strings.Repeat("*", 40), 0, api.ErrRegex},
		{strings.Repeat("(", 11) + "a", 10, api.ErrDeep},
		{"ab|" + strings.Repeat("(", 11), 13, api.ErrDeep},
	} {
		if m, at, e := nfa.New(c.s); m != nil || at != c.at || e != c.e {
			t.Errorf("10.1: New(%q): %v, %d, %d, want %d, %d", c.s, m != nil, at, e, c.at, c.e)
		}
	}
}

// 10.1: the empty text matches the empty text, everywhere.
func TestNewEmpty(t *testing.T) {
	m := made(t, "")
	isAt(t, "", m, "", 0, 0)
	isAt(t, "", m, "ab", 1, 1)
	isFound(t, "", m, "ab", 2, 2, 2)
	isFound(t, "", m, "ab", 3, none, none)
	isAll(t, "", m, "", 0)
	isAll(t, "", m, "ab", 0, 1+1i, 2+2i)
	if !m.Is("") || !m.Is("ab") {
		t.Error("10.2: Is")
	}
}

// 10.1 and W4: every short text is taken or refused as ere.Parse does it; one that is taken has the machine of its tree.
func TestNewOfAllShortTexts(t *testing.T) {
	counts := map[api.Errno]int{}
	texts := shortTexts("ab", 3)
	for _, s := range shortTexts("ab|*?(^$)+", 5) {
		r, place, is := ere.Parse(s)
		m, at, e := nfa.New(s)
		counts[e]++
		if at != place || e != is || (m != nil) != (e == api.OK) {
			t.Fatalf("10.1: New(%q): %v, %d, %d, want %d, %d", s, m != nil, at, e, place, is)
		}
		for _, text := range texts {
			if e == api.OK {
				agrees(t, m, r, text)
			}
		}
	}
	if counts[api.OK] < 10000 || counts[api.ErrRegex] < 1000 {
		t.Errorf("texts were taken or refused: %v", counts)
	}
}
