package class_test

import (
	"math/rand"
	"regexp"
	"slices"
	"strconv"
	"strings"
	"testing"

	"tailrace/class"
)

// The forms of the document, of a text whose bytes stand as runes below 256.
const anEnd = `(?:\\[0-7]{1,3}|\\[^0-7]|[^\\])`

var (
	nameForm  = regexp.MustCompile(`^\[:([^:\]]*):\]`)
	rangeForm = regexp.MustCompile(`(?s)^(` + anEnd + `)-(` + anEnd + `)`)
	endForm   = regexp.MustCompile(`(?s)^` + anEnd)
)

// plain is the plainest reader: it asks of what is left which form stands there.
func plain(s string) (set class.Set, end int, ok bool) {
	left := runes(s)
	all := len(s)
	others := strings.HasPrefix(left, "^")
	left = strings.TrimPrefix(left, "^")
	for first := true; first || !strings.HasPrefix(left, "]"); first = false {
		of, item := plainItem(left)
		if item == "" {
			return class.Set{}, 0, false
		}
		set = with(set, of)
		left = left[len(item):]
	}
	if others {
		set = but(set)
	}
	return set, all - len([]rune(left)) + 1, true
}

// plainItem tells the set of the item that stands first, and its text; no text, if none does.
func plainItem(s string) (class.Set, string) {
	if strings.HasPrefix(s, "[:") {
		m := nameForm.FindStringSubmatch(s)
		if m == nil || names[m[1]] == nil {
			return class.Set{}, ""
		}
		return spans(names[m[1]]...), m[0]
	}
	if m := rangeForm.FindStringSubmatch(s); m != nil && m[2] != "]" {
		low, high := plainByte(m[1]), plainByte(m[2])
		if high < low || strings.HasPrefix(s[len(m[1]+"-"):], "[:") {
			return class.Set{}, ""
		}
		return spans([2]byte{low, high}), m[0]
	}
	item := endForm.FindString(s)
	if item == "" {
		return class.Set{}, ""
	}
	b := plainByte(item)
	return spans([2]byte{b, b}), item
}

func plainByte(end string) byte {
	switch end {
	case `\n`:
		return 10
	case `\t`:
		return 9
	}
	if n, err := strconv.ParseUint(strings.TrimPrefix(end, `\`), 8, 16); err == nil && end[0] == '\\' {
		return byte(n % 256)
	}
	l := []rune(end)
	return byte(l[len(l)-1])
}

// runes tells a text with a rune for each byte, as forms are of runes.
func runes(s string) string {
	l := make([]rune, len(s))
	for i := range l {
		l[i] = rune(s[i])
	}
	return string(l)
}

// agrees holds Bracket against the plainest reader, and tells whether a set was read.
func agrees(t *testing.T, s string) bool {
	t.Helper()
	set, end, ok := class.Bracket(s, 0)
	if want, place, is := plain(s); set != want || end != place || ok != is {
		t.Fatalf("8.2: %q: %x, %d, %v, want %x, %d, %v", s, set, end, ok, want, place, is)
	}
	return ok
}

// 8.2 and W4: every short text of the bytes that bear a meaning is read, or is refused.
func TestAllShortTexts(t *testing.T) {
	counts := map[bool]int{}
	for _, of := range []string{"]^-[:\\a1", "]-\\017b", "^]-n\xff"} {
		texts := []string{""}
		for range 6 {
			var longer []string
			for _, s := range texts {
				counts[agrees(t, s)]++
				for i := range of {
					longer = append(longer, s+of[i:i+1])
				}
			}
			texts = longer
		}
	}
	if counts[true] < 10000 || counts[false] < 10000 {
		t.Errorf("texts were read or not: %v", counts)
	}
}

// 8.2 and W4: picked items, in any order, and bytes of all values among them.
func TestPickedTexts(t *testing.T) {
	pick := rand.New(rand.NewSource(82))
	pieces := []string{"]", "^", "-", "[", "[:", ":]", ":", "\\", "\\n", "\\t", "\\1", "\\12", "\\123", "\\777", "\\-", "\\]", "\\\\", "a-z", "0-9", "z-a", "+--", "é", "[:word:]", "[:Alpha:]"}
	for name := range names {
		pieces = append(pieces, "[:"+name+":]")
	}
	// A map's order is none: the pieces are picked from a sorted row.
	slices.Sort(pieces)
	counts := map[bool]int{}
	for range 40000 {
		var s strings.Builder
		for range pick.Intn(7) {
			if pick.Intn(3) == 0 {
				s.WriteByte(byte(pick.Intn(256)))
				continue
			}
			s.WriteString(pieces[pick.Intn(len(pieces))])
		}
		if pick.Intn(2) == 0 {
			s.WriteString("]")
		}
		counts[agrees(t, s.String())]++
	}
	if counts[true] < 5000 || counts[false] < 5000 {
		t.Errorf("texts were read or not: %v", counts)
	}
}

// 8.2: what stands ahead of the place and behind the end has no part in it.
func TestPickedPlaces(t *testing.T) {
	pick := rand.New(rand.NewSource(83))
	const of = "]^-[:\\a1\xff"
	for range 40000 {
		s := make([]byte, pick.Intn(12))
		for i := range s {
			s[i] = of[pick.Intn(len(of))]
		}
		text := string(s)
		at := pick.Intn(len(text) + 1)
		set, end, ok := class.Bracket(text, at)
		if want, place, is := plain(text[at:]); set != want || ok != is || ok && end != at+place || !ok && end != 0 {
			t.Fatalf("8.2: %q at %d: %x, %d, %v, want %x, %d behind it, %v", text, at, set, end, ok, want, place, is)
		}
		if !ok {
			continue
		}
		if cut, place, is := class.Bracket(text[:end], at); cut != set || place != end || !is {
			t.Fatalf("8.2: %q at %d, cut at %d: %x, %d, %v", text, at, end, cut, place, is)
		}
		if cut, place, is := class.Bracket(text[:end-1], at); is || place != 0 || cut != (class.Set{}) {
			t.Fatalf("8.2: %q at %d, cut ahead of %d: %x, %d, %v", text, at, end, cut, place, is)
		}
	}
}
