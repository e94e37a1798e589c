package ere_test

import (
	"math/rand"
	"strings"
	"testing"

	"tailrace/api"
	"tailrace/class"
	"tailrace/ere"
)

// prints wants a text of a tree, and the tree of the text.
func prints(t *testing.T, r ere.Re, want string) {
	t.Helper()
	if s := ere.Print(r); s != want {
		t.Errorf("9.3: %s: %q, want %q", told(r), s, want)
	}
	parses(t, want, r)
}

// 9.3 and 9.4: each kind, and each below each other.
func TestPrintOfEachKind(t *testing.T) {
	const e, a, z = "(.?){0}", "[\\141]", "[\\172]"
	x, y := of("a"), of("z")
	for _, c := range []struct {
		r    ere.Re
		want string
	}{
		{ere.Re{}, e},
		{x, a},
		{tree(cat, x, y), "(" + a + ")(" + z + ")"},
		{tree(alt, x, y), "((" + a + ")|(" + z + "))"},
		{tree(star, x), "(" + a + ")*"},
		{tree(plus, x), "(" + a + ")+"},
		{tree(opt, x), "(" + a + ")?"},
		{tree(first), "^"},
		{tree(last), "$"},
		{row(cat, x, y, x), "(" + a + ")((" + z + ")(" + a + "))"},
		{tree(cat, tree(cat, x, y), x), "((" + a + ")(" + z + "))(" + a + ")"},
		{row(alt, x, y, x), "((" + a + ")|(((" + z + ")|(" + a + "))))"},
		{tree(cat, tree(alt, x, y), x), "(((" + a + ")|(" + z + ")))(" + a + ")"},
		{tree(alt, tree(cat, x, y), x), "(((" + a + ")(" + z + "))|(" + a + "))"},
		{tree(star, tree(alt, x, y)), "(((" + a + ")|(" + z + ")))*"},
		{tree(plus, tree(cat, x, y)), "((" + a + ")(" + z + "))+"},
		{tree(opt, tree(star, tree(plus, x))), "(((" + a + ")+)*)?"},
		{tree(star, ere.Re{}), "(" + e + ")*"},
		{tree(cat, ere.Re{}, ere.Re{}), "(" + e + ")(" + e + ")"},
		{tree(alt, ere.Re{}, x), "((" + e + ")|(" + a + "))"},
		{tree(plus, tree(first)), "(^)+"},
		{row(cat, tree(first), x, tree(last)), "(^)((" + a + ")($))"},
		{tree(alt, tree(last), tree(opt, tree(first))), "(($)|((^)?))"},
	} {
		prints(t, c.r, c.want)
	}
}

// 9.3 and 9.4: a set of all bytes, of none, of each one, of all but one, of some.
func TestPrintOfSets(t *testing.T) {
	prints(t, ere.Re{Kind: set, Set: full}, ".")
	prints(t, ere.Re{Kind: set}, "[^\\000-\\377]")
	for b := range 256 {
		one := class.Of(byte(b))
		prints(t, ere.Re{Kind: set, Set: one}, "["+octal(b)+"]")
		var others strings.Builder
		for x := range 256 {
			if x != b {
				others.WriteString(octal(x))
			}
		}
		prints(t, ere.Re{Kind: set, Set: one.Not()}, "["+others.String()+"]")
	}
	prints(t, of("cab"), "[\\141\\142\\143]")
	prints(t, of("\x00\xff"), "[\\000\\377]")
	prints(t, of("]^-[\\:"), "[\\055\\072\\133\\134\\135\\136]")
	prints(t, of("\x3f\x40\x7f\x80\xbf\xc0"), "[\\077\\100\\177\\200\\277\\300]")
}

// octal tells a byte as `\` and three octal digits.
func octal(b int) string {
	return "\\" + string([]byte{byte('0' + b/64), byte('0' + b/8%8), byte('0' + b%8)})
}

// 9.3 and R3: nothing, of a tree that is not right.
func TestPrintOfWrongTrees(t *testing.T) {
	a := of("a")
	for name, r := range wrong() {
		for _, r := range []ere.Re{r, tree(star, r), tree(cat, a, r), tree(alt, r, a), signs(39, opt, r)} {
			if s := ere.Print(r); s != "" {
				t.Errorf("9.3: %s: %.80q", name, s)
			}
		}
	}
	for name, r := range map[string]ere.Re{"40 signs": signs(40, plus, a), "401 leaves": row(cat, many(401, a)...), "a million signs": signs(1<<20, plus, a)} {
		if s := ere.Print(r); s != "" {
			t.Errorf("9.3: %s: %.80q", name, s)
		}
	}
}

// 9.3: the greatest trees are printed, though their brackets nest too deep to be parsed again.
func TestPrintOfGreatTrees(t *testing.T) {
	a := of("a")
	for _, r := range []ere.Re{signs(39, star, a), row(cat, many(400, a)...), row(alt, many(400, of("a\xff"))...), row(cat, append(many(399, a), signs(39, opt, ere.Re{}))...), halves(alt, 400, tree(plus, ere.Re{Kind: set, Set: class.Of(7).Not()}))} {
		s := ere.Print(r)
		if s != plainPrint(r) {
			t.Errorf("9.3: %.80s: %.80q", told(r), s)
		}
	}
	refuses(t, ere.Print(signs(11, star, a)), 10, api.ErrDeep)
	parses(t, ere.Print(signs(10, star, a)), signs(10, star, a))
	refuses(t, ere.Print(row(cat, many(12, a)...)), openDeep(ere.Print(row(cat, many(12, a)...))), api.ErrDeep)
	parses(t, ere.Print(row(cat, many(11, a)...)), row(cat, many(11, a)...))
}

// plainPrint puts a text together as the document tells it, kind by kind.
func plainPrint(r ere.Re) string {
	var l []string
	for _, kid := range r.Kids {
		l = append(l, "("+plainPrint(kid)+")")
	}
	switch r.Kind {
	case set:
		return plainSet(r.Set)
	case cat:
		return strings.Join(l, "")
	case alt:
		return "(" + strings.Join(l, "|") + ")"
	}
	return strings.Join(l, "") + map[int]string{empty: "(.?){0}", star: "*", plus: "+", opt: "?", first: "^", last: "$"}[r.Kind]
}

func plainSet(s class.Set) string {
	switch s {
	case full:
		return "."
	case class.Set{}:
		return "[^\\000-\\377]"
	}
	text := "["
	for b := range 256 {
		if s[b/64]&(1<<(b%64)) != 0 {
			text += octal(b)
		}
	}
	return text + "]"
}

// openDeep tells the place of the first `(` that stands in more than ten others; -1, if there is none. Of a printed text,
// which has none between `[` and `]`.
func openDeep(s string) int {
	depth := 0
	for i, b := range s {
		switch b {
		case '(':
			if depth++; depth > 10 {
				return i
			}
		case ')':
			depth--
		}
	}
	return -1
}

// 9.3 and 9.4: picked trees: what is printed, and what of that is parsed: the same tree, unless its brackets nest too deep.
func TestPrintOfPickedTrees(t *testing.T) {
	pick := rand.New(rand.NewSource(93))
	again, deep := 0, 0
	for range 6000 {
		r := picked(pick, 1+pick.Intn(9))
		s := ere.Print(r)
		if want := plainPrint(r); s != want {
			t.Fatalf("9.3: %s: %q, want %q", told(r), s, want)
		}
		if place := openDeep(s); place >= 0 {
			refuses(t, s, place, api.ErrDeep)
			deep++
			continue
		}
		parses(t, s, r)
		again++
	}
	if again < 2000 || deep < 200 {
		t.Errorf("%d were parsed again, %d too deep", again, deep)
	}
}

// 9.3: of the empty text, of each byte, of all of them.
func TestQuote(t *testing.T) {
	if s := ere.Quote(""); s != "" {
		t.Errorf("9.3: %q", s)
	}
	parses(t, ere.Quote(""), ere.Re{})
	text, want := "", ""
	var l []ere.Re
	for b := range 256 {
		x := string([]byte{byte(b)})
		if s := ere.Quote(x); s != octal(b) {
			t.Errorf("9.3: %q: %q", x, s)
		}
		parses(t, ere.Quote(x), of(x))
		if s := ere.Quote(x + "7" + x); s != octal(b)+"\\067"+octal(b) {
			t.Errorf("9.3: %q: %q", x+"7"+x, s)
		}
		text, want = text+x, want+octal(b)
		l = append(l, of(x))
	}
	if s := ere.Quote(text); s != want {
		t.Errorf("9.3: all bytes: %q", s)
	}
	parses(t, ere.Quote(text), row(cat, l...))
	parses(t, "("+ere.Quote("a|b*")+")*", tree(star, row(cat, of("a"), of("|"), of("b"), of("*"))))
	if s := ere.Quote("é\x00."); s != "\\303\\251\\000\\056" {
		t.Errorf("9.3: %q", s)
	}
}

// 9.3: a text of more bytes than there may be leaves is quoted as others are; what that makes is not right.
func TestQuoteOfLongTexts(t *testing.T) {
	for _, n := range []int{400, 401, 1 << 20} {
		s := ere.Quote(strings.Repeat("\x01", n))
		if s != strings.Repeat("\\001", n) {
			t.Errorf("9.3: %d bytes: %d of them, %.80q", n, len(s), s)
		}
		if n > 400 {
			refuses(t, s, 0, api.ErrRegex)
			continue
		}
		parses(t, s, row(cat, many(n, of("\x01"))...))
	}
}
