package ere_test

import (
	"math/rand"
	"regexp"
	"strconv"
	"strings"
	"testing"

	"tailrace/api"
	"tailrace/class"
	"tailrace/ere"
)

var (
	timesForm = regexp.MustCompile(`^\{([0-9]{1,2})(,([0-9]{1,2})?)?\}`)
	octalForm = regexp.MustCompile(`^\\([0-7]{1,3})`)
)

// level is what is read of one `(`, or of the whole: rows, the last of which goes on.
type level [][]ere.Re

func (l level) tree() ere.Re {
	var rows []ere.Re
	for _, pieces := range l {
		rows = append(rows, row(cat, pieces...))
	}
	return row(alt, rows...)
}

// plain is the plainest reader: a pile of levels, and what the byte that stands next does to it. It builds whatever is told.
func plain(s string) (ere.Re, int, api.Errno) {
	if s == "" {
		return ere.Re{}, 0, api.OK
	}
	pile := []level{{nil}}
	at := 0
	for at < len(s) {
		top := pile[len(pile)-1]
		pieces := &top[len(top)-1]
		none := len(*pieces) == 0
		switch b := s[at]; b {
		case '(':
			if len(pile) > 10 {
				return ere.Re{}, at, api.ErrDeep
			}
			pile = append(pile, level{nil})
			at++
			continue
		case ')':
			if none || len(pile) == 1 {
				return ere.Re{}, at, api.ErrRegex
			}
			pile = pile[:len(pile)-1]
			below := pile[len(pile)-1]
			below[len(below)-1] = append(below[len(below)-1], top.tree())
			at++
			continue
		case '|':
			if none {
				return ere.Re{}, at, api.ErrRegex
			}
			pile[len(pile)-1] = append(top, nil)
			at++
			continue
		case '*', '+', '?', '{':
			if none {
				return ere.Re{}, at, api.ErrRegex
			}
			p := &(*pieces)[len(*pieces)-1]
			n := 0
			if *p, n = plainSign(s[at:], *p); n == 0 {
				return ere.Re{}, at, api.ErrRegex
			}
			at += n
			continue
		}
		r, n := plainAtom(s, at)
		if n == 0 {
			if s[at:] == "\\" {
				at++
			}
			return ere.Re{}, at, api.ErrRegex
		}
		*pieces = append(*pieces, r)
		at += n
	}
	if top := pile[len(pile)-1]; len(pile) > 1 || len(top[len(top)-1]) == 0 {
		return ere.Re{}, at, api.ErrRegex
	}
	r := pile[0].tree()
	if !plainRight(r) {
		return ere.Re{}, 0, api.ErrRegex
	}
	return r, 0, api.OK
}

// plainSign tells what the sign that stands first makes of a tree, and how long it is; 0, if it is none.
func plainSign(s string, r ere.Re) (ere.Re, int) {
	if kind := map[byte]int{'*': star, '+': plus, '?': opt}[s[0]]; kind != 0 {
		return tree(kind, r), 1
	}
	m := timesForm.FindStringSubmatch(s)
	if m == nil {
		return ere.Re{}, 0
	}
	least, _ := strconv.Atoi(m[1])
	most := least
	if m[3] != "" {
		most, _ = strconv.Atoi(m[3])
	}
	if least > most || most > 50 {
		return ere.Re{}, 0
	}
	return inRow(least, most, m[2] == ",", r), len(m[0])
}

// plainAtom tells the tree of the atom that stands at a place, and how long it is; 0, if it is none. It reads no `(`.
func plainAtom(s string, at int) (ere.Re, int) {
	switch b := s[at]; b {
	case '.':
		return ere.Re{Kind: set, Set: full}, 1
	case '^':
		return tree(first), 1
	case '$':
		return tree(last), 1
	case '[':
		of, end, ok := class.Bracket(s, at+1)
		if !ok {
			return ere.Re{}, 0
		}
		return ere.Re{Kind: set, Set: of}, end - at
	case '\\':
	default:
		return of(s[at : at+1]), 1
	}
	if m := octalForm.FindStringSubmatch(s[at:]); m != nil {
		n, _ := strconv.ParseInt(m[1], 8, 32)
		return of(string([]byte{byte(n % 256)})), len(m[0])
	}
	if at+1 == len(s) {
		return ere.Re{}, 0
	}
	if k := strings.IndexByte("ntrfvab", s[at+1]); k >= 0 {
		return of("\n\t\r\f\v\a\b"[k : k+1]), 2
	}
	return of(s[at+1 : at+2]), 2
}

// agrees holds Parse against the plainest reader, and tells the error.
func agrees(t *testing.T, s string) api.Errno {
	t.Helper()
	r, at, e := ere.Parse(s)
	if want, place, is := plain(s); e != is || at != place || !same(r, want) {
		t.Fatalf("9.2: %q: %.200s, %d, %d, want %.200s, %d, %d", s, told(r), at, e, told(want), place, is)
	}
	return e
}

// 9.2 and W4: every short text of the bytes that bear a meaning is told as the document says, or is refused.
func TestAllShortTexts(t *testing.T) {
	counts := map[api.Errno]int{}
	for of, most := range map[string]int{"a|()*{}2": 5, "a{},013": 6, "ab[]^\\17": 5, "(|)*a": 7, ".$^+(n\\\xff)": 5} {
		shortTexts(of, "", most, func(s string) { counts[agrees(t, s)]++ })
	}
	if counts[api.OK] < 20000 || counts[api.ErrRegex] < 100000 {
		t.Errorf("texts were read or refused: %v", counts)
	}
}

// shortTexts tells all texts of these bytes that begin so and have at most so many more.
func shortTexts(of, ahead string, most int, tell func(s string)) {
	tell(ahead)
	if most == 0 {
		return
	}
	for i := range of {
		shortTexts(of, ahead+of[i:i+1], most-1, tell)
	}
}

// 9.2 and W4: picked pieces, in any order, and bytes of all values among them.
func TestPickedTexts(t *testing.T) {
	pick := rand.New(rand.NewSource(94))
	counts := map[api.Errno]int{}
	for range 30000 {
		counts[agrees(t, pickedText(pick))]++
	}
	if counts[api.OK] < 5000 || counts[api.ErrRegex] < 5000 || counts[api.ErrDeep] < 20 {
		t.Errorf("texts were read or refused: %v", counts)
	}
}

// 9.2: picked texts that nest, near the bounds of depth and of leaves.
func TestPickedNestedTexts(t *testing.T) {
	pick := rand.New(rand.NewSource(95))
	counts := map[string]int{}
	for range 3000 {
		s := nested(pick, 1+pick.Intn(11))
		e := agrees(t, s)
		_, at, _ := ere.Parse(s)
		switch {
		case e == api.OK || e == api.ErrDeep:
			counts[strconv.Itoa(int(e))]++
		case at == 0:
			counts["not right"]++
		}
	}
	if counts["0"] < 500 || counts["26"] < 100 || counts["not right"] < 100 {
		t.Errorf("texts were read or refused: %v", counts)
	}
}

// nested tells a text of so many `(` in one another, or somewhat fewer.
func nested(pick *rand.Rand, depth int) string {
	var s strings.Builder
	for k := range 1 + pick.Intn(3) {
		if k > 0 && pick.Intn(3) == 0 {
			s.WriteByte('|')
		}
		if depth == 0 || k > 0 && pick.Intn(3) > 0 {
			s.WriteString([]string{"a", "[ab]", "^", "\\12", "."}[pick.Intn(5)])
		} else {
			s.WriteString("(" + nested(pick, depth-1) + ")")
		}
		switch pick.Intn(8) {
		case 0:
			s.WriteString([]string{"{2}", "{0}", "{1,3}", "{2,}", "{0,1}", "{1}", "{9}"}[pick.Intn(7)])
		case 1:
			s.WriteString(strings.Repeat([]string{"*", "+", "?"}[pick.Intn(3)], 1+pick.Intn(9)))
		}
	}
	return s.String()
}

// ends tells the places at which what a tree matches from a place may end, as chapter 10 says it, a bit each.
func ends(r ere.Re, text string, from uint64) uint64 {
	switch r.Kind {
	case set:
		var to uint64
		for i := range len(text) {
			if from>>i&1 == 1 && r.Set.Has(text[i]) {
				to |= 1 << (i + 1)
			}
		}
		return to
	case cat:
		return ends(r.Kids[1], text, ends(r.Kids[0], text, from))
	case alt:
		return ends(r.Kids[0], text, from) | ends(r.Kids[1], text, from)
	case opt:
		return from | ends(r.Kids[0], text, from)
	case plus:
		return ends(r.Kids[0], text, ends(tree(star, r.Kids[0]), text, from))
	case star:
		for {
			more := from | ends(r.Kids[0], text, from)
			if more == from {
				return from
			}
			from = more
		}
	case first:
		return from & 1
	case last:
		return from & (1 << len(text))
	}
	return from
}

// 9.2 and 9.4: what is parsed matches what such a text has always matched, and so does what is printed of it.
func TestLanguage(t *testing.T) {
	pick := rand.New(rand.NewSource(96))
	matched, missed, great := 0, 0, 0
	for range 1500 {
		s, other := pair(pick, 3)
		form := regexp.MustCompile(`(?s)\A(?:` + other + `)\z`)
		if agrees(t, s) != api.OK {
			great++
			continue
		}
		r, _, _ := ere.Parse(s)
		printed, _, e := ere.Parse(ere.Print(r))
		if e != api.OK && e != api.ErrDeep {
			t.Fatalf("9.4: %q: %q: %d", s, ere.Print(r), e)
		}
		deep := e == api.ErrDeep
		shortTexts("abc", "", 4, func(text string) {
			is := form.MatchString(text)
			if is {
				matched++
			} else {
				missed++
			}
			if ends(r, text, 1)>>len(text)&1 == 1 != is {
				t.Fatalf("9.2: %q: %q: %v, want %v", s, text, !is, is)
			}
			if !deep && ends(printed, text, 1)>>len(text)&1 == 1 != is {
				t.Fatalf("9.4: %q as %q: %q: %v, want %v", s, ere.Print(r), text, !is, is)
			}
		})
	}
	if matched < 10000 || missed < 10000 || great > 50 {
		t.Errorf("%d texts matched, %d did not; %d were too great", matched, missed, great)
	}
}

// pair tells a picked regular expression, and the same in the library's dialect, where each piece stands in brackets.
func pair(pick *rand.Rand, depth int) (s, other string) {
	for k := range 1 + pick.Intn(3) {
		if k > 0 && pick.Intn(3) == 0 {
			s, other = s+"|", other+"|"
		}
		atom, as := pairAtom(pick, depth)
		for range pick.Intn(3) {
			sign := []string{"*", "+", "?", "{2}", "{0}", "{1,2}", "{0,2}", "{1,}", "{0,}", "{3}"}[pick.Intn(10)]
			atom, as = atom+sign, "(?:"+as+")"+sign
		}
		s, other = s+atom, other+as
	}
	return s, other
}

func pairAtom(pick *rand.Rand, depth int) (s, other string) {
	if depth > 0 && pick.Intn(3) == 0 {
		s, other = pair(pick, depth-1)
		return "(" + s + ")", "(?:" + other + ")"
	}
	l := [][2]string{{"a", "a"}, {"b", "b"}, {".", "."}, {"[ab]", "[ab]"}, {"[^a]", "[^a]"}, {"^", `\A`}, {"$", `\z`}, {"\\141", "a"}, {"\\142", "b"}, {"[b-c]", "[bc]"}, {"\\c", "c"}}
	k := pick.Intn(len(l))
	return l[k][0], l[k][1]
}
