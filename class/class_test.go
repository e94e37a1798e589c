package class_test

import (
	"math/rand"
	"strconv"
	"testing"

	"tailrace/class"
)

// 8.1: the chapter's examples.
func TestExamples(t *testing.T) {
	if n := class.Span(97, 99).Count(); n != 3 {
		t.Errorf("Span(97, 99).Count(): %d", n)
	}
	if s, ok := class.Named("digit"); !ok || !s.Has(53) {
		t.Errorf("Named(digit): %x, %v", s, ok)
	}
	if s, ok := class.Named("word"); ok || s != (class.Set{}) {
		t.Errorf("Named(word): %x, %v", s, ok)
	}
}

// 8.1: without bytes, of each byte alone, of one twice, of both ends of words, of all; in any order.
func TestOf(t *testing.T) {
	holds(t, "Of()", class.Of(), class.Set{})
	holds(t, "Of(nil...)", class.Of(nil...), class.Set{})
	for b := range 256 {
		var want class.Set
		put(&want, b)
		holds(t, "Of "+strconv.Itoa(b), class.Of(byte(b)), want)
		holds(t, "Of twice "+strconv.Itoa(b), class.Of(byte(b), byte(b)), want)
	}
	ends := class.Set{1 | 1<<63, 1, 0, 1 << 63}
	holds(t, "Of(0, 63, 64, 255)", class.Of(0, 63, 64, 255), ends)
	holds(t, "Of(255, 64, 63, 0, 64)", class.Of(255, 64, 63, 0, 64), ends)
	all := make([]byte, 256)
	for b := range all {
		all[b] = byte(255 - b)
	}
	holds(t, "Of all", class.Of(all...), full)
	holds(t, "Of all twice", class.Of(append(all, all...)...), full)
}

// R2: bytes that are handed in are not changed, their spare room included; turned afterwards they turn no set.
func TestOfKeepsNothing(t *testing.T) {
	given := []byte("abc, and spare room")
	s := class.Of(given[:3]...)
	if string(given) != "abc, and spare room" {
		t.Errorf("changed to %q", given)
	}
	for i := range given {
		given[i] = 'Q'
	}
	holds(t, "Of(abc)", s, bytesOf("abc"))
}

// 8.1: from each byte to each other: to itself it is one, to one below it none.
func TestSpan(t *testing.T) {
	for a := range 256 {
		var want class.Set
		for b := range 256 {
			if b >= a {
				put(&want, b)
			}
			s := class.Span(byte(a), byte(b))
			if n := max(b-a+1, 0); s != want || s.Count() != n {
				t.Fatalf("Span(%d, %d): %x, %d of them, want %x, %d", a, b, s, s.Count(), want, n)
			}
		}
	}
	holds(t, "Span(0, 255)", class.Span(0, 255), full)
	holds(t, "Span(255, 0)", class.Span(255, 0), class.Set{})
	holds(t, "Span(63, 64)", class.Span(63, 64), class.Set{1 << 63, 1})
	holds(t, "Span(64, 63)", class.Span(64, 63), class.Set{})
	holds(t, "Span(255, 255)", class.Span(255, 255), class.Set{0, 0, 0, 1 << 63})
}

// 8.1: each of the twelve names, with all 256 bytes.
func TestNamed(t *testing.T) {
	if len(names) != 12 {
		t.Fatalf("%d names", len(names))
	}
	for name, of := range names {
		s, ok := class.Named(name)
		if !ok {
			t.Errorf("8.1: Named(%s): false", name)
		}
		holds(t, name, s, spans(of...))
	}
}

// 8.1: what the names have to do with one another.
func TestNamesTogether(t *testing.T) {
	all := map[string]class.Set{}
	for name := range names {
		all[name], _ = class.Named(name)
	}
	for _, c := range []struct {
		s    string
		a, b class.Set
	}{
		{"alpha", all["upper"], all["lower"]},
		{"alnum", all["alpha"], all["digit"]},
		{"graph", all["alnum"], all["punct"]},
		{"print", all["graph"], class.Of(' ')},
		{"space", all["blank"], class.Span(10, 13)},
		{"xdigit", all["digit"], class.Of([]byte("ABCDEFabcdef")...)},
	} {
		if c.a.Or(c.b) != all[c.s] || c.a.Count()+c.b.Count() != all[c.s].Count() {
			t.Errorf("8.1: %s: %x, want %x and %x", c.s, all[c.s], c.a, c.b)
		}
	}
	if all["print"].Or(all["cntrl"]) != class.Span(0, 127) {
		t.Error("8.1: print and cntrl")
	}
}

// 8.1 and R3: of other names it is false, and the set has no bytes.
func TestNoNames(t *testing.T) {
	for _, name := range noNames() {
		if s, ok := class.Named(name); ok || s != (class.Set{}) {
			t.Errorf("8.1: Named(%q): %x, %v", name, s, ok)
		}
	}
}

// 8.1: any two: the bytes of either, whichever stands first.
func TestOr(t *testing.T) {
	for _, s := range some() {
		for _, u := range some() {
			holds(t, "Or", s.Or(u), with(s, u))
		}
		if s.Or(s) != s || s.Or(class.Set{}) != s || s.Or(full) != full || s.Or(s.Not()) != full {
			t.Errorf("8.1: Or of %x", s)
		}
	}
}

// 8.1: of the empty set, of the full one, of others and of what Not itself told.
func TestNot(t *testing.T) {
	holds(t, "Not of none", class.Set{}.Not(), full)
	holds(t, "Not of all", full.Not(), class.Set{})
	holds(t, "Not of ends", class.Of(0, 63, 64, 255).Not(), class.Set{1<<63 - 2, 1<<64 - 2, 1<<64 - 1, 1<<63 - 1})
	for _, s := range some() {
		holds(t, "Not", s.Not(), but(s))
		holds(t, "Not of Not", s.Not().Not(), s)
		if s.Count()+s.Not().Count() != 256 {
			t.Errorf("8.1: %x and its Not: %d and %d", s, s.Count(), s.Not().Count())
		}
	}
}

// 8.1: picked bits, whoever set them: Has, Count, Or and Not tell of these alone.
func TestPickedSets(t *testing.T) {
	pick := rand.New(rand.NewSource(8))
	for range 300 {
		var s, u class.Set
		for i := range s {
			s[i], u[i] = pick.Uint64()&pick.Uint64(), pick.Uint64()
		}
		holds(t, "picked", s, s)
		holds(t, "Or", s.Or(u), with(s, u))
		holds(t, "Not", s.Not(), but(s))
	}
}

// Ways: a set is a value: one that is copied and then changed turns no other, and asking turns none.
func TestSetsAreValues(t *testing.T) {
	s := class.Of('a', 'b')
	copied := s
	copied[0] = 1
	copied[1] = 0
	holds(t, "the first one", s, bytesOf("ab"))
	holds(t, "its copy", copied, bytesOf("\x00"))
	u := class.Of('c')
	either, others := s.Or(u), s.Not()
	holds(t, "what Or was told of", s, bytesOf("ab"))
	holds(t, "what Or was told", u, bytesOf("c"))
	s[3], u[3] = 1, 1
	holds(t, "what Or told", either, bytesOf("abc"))
	holds(t, "what Not told", others, but(bytesOf("ab")))
	if !(class.Set{} == class.Of()) || map[class.Set]int{class.Span(1, 2): 5}[class.Of(2, 1)] != 5 {
		t.Error("sets of the same bytes are not the same")
	}
}

// R4 and R8: a name's set stays as it is, whatever is done with one that was told.
func TestNamedTellsTheSameAgain(t *testing.T) {
	for name, of := range names {
		s, _ := class.Named(name)
		s[0], s[1] = s[1], s[0]
		again, ok := class.Named(name)
		if !ok || again != spans(of...) {
			t.Errorf("8.1: Named(%s) again: %x, %v", name, again, ok)
		}
	}
}
