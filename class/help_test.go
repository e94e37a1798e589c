package class_test

import (
	"testing"

	"tailrace/class"
)

// names are the twelve that are known, each with its bytes as the document tells them: from the one to the other.
var names = map[string][][2]byte{
	"alpha":  {{'A', 'Z'}, {'a', 'z'}},
	"digit":  {{'0', '9'}},
	"alnum":  {{'0', '9'}, {'A', 'Z'}, {'a', 'z'}},
	"upper":  {{'A', 'Z'}},
	"lower":  {{'a', 'z'}},
	"space":  {{9, 13}, {32, 32}},
	"blank":  {{9, 9}, {32, 32}},
	"punct":  {{33, 47}, {58, 64}, {91, 96}, {123, 126}},
	"print":  {{32, 126}},
	"graph":  {{33, 126}},
	"cntrl":  {{0, 31}, {127, 127}},
	"xdigit": {{'0', '9'}, {'A', 'F'}, {'a', 'f'}},
}

// noNames are some that are none.
func noNames() []string {
	l := []string{"", " ", "a", "word", "ascii", "alphaalpha", "alphadigit", ":alpha:", "[:alpha:]", "alph\xe1", "\xff"}
	for name := range names {
		l = append(l, name+"s", name+" ", name+"\x00", name+":", "s"+name, " "+name, name[:len(name)-1])
		// xdigit without its first letter is a name, too.
		if _, is := names[name[1:]]; !is {
			l = append(l, name[1:])
		}
		l = append(l, upper(name), upper(name[:1])+name[1:], name[:len(name)-1]+upper(name[len(name)-1:]))
	}
	return l
}

func upper(s string) string {
	b := []byte(s)
	for i := range b {
		b[i] -= 'a' - 'A'
	}
	return string(b)
}

// full is the set of all bytes.
var full = class.Set{1<<64 - 1, 1<<64 - 1, 1<<64 - 1, 1<<64 - 1}

// put makes the byte one of the set, by the place of its bit alone.
func put(s *class.Set, b int) { s[b/64] |= 1 << (b % 64) }

// spans tells the set of all bytes from each one to its other.
func spans(l ...[2]byte) class.Set {
	var s class.Set
	for _, p := range l {
		for b := int(p[0]); b <= int(p[1]); b++ {
			put(&s, b)
		}
	}
	return s
}

// bytesOf tells the set of a text's bytes.
func bytesOf(text string) class.Set {
	var s class.Set
	for i := range len(text) {
		put(&s, int(text[i]))
	}
	return s
}

// but tells the set of all bytes that are not in s.
func but(s class.Set) class.Set {
	for i := range s {
		s[i] ^= 1<<64 - 1
	}
	return s
}

// with tells the set of all bytes of some sets.
func with(l ...class.Set) class.Set {
	var s class.Set
	for _, t := range l {
		for i := range s {
			s[i] |= t[i]
		}
	}
	return s
}

// some are sets of all kinds.
func some() []class.Set {
	l := []class.Set{{}, full, {1}, {0, 0, 0, 1 << 63}, {1 << 63}, {0, 1}, {1 << 63, 1, 0, 1 << 63}, {0, 1<<64 - 1}, {0x5555555555555555, 0xaaaaaaaaaaaaaaaa, 7, 1 << 40}}
	for _, of := range names {
		l = append(l, spans(of...), but(spans(of...)))
	}
	return l
}

// holds wants just these bytes in the set, as Has, Count and its words tell.
func holds(t *testing.T, of string, s, want class.Set) {
	t.Helper()
	if s != want {
		t.Errorf("8.1: %s: %x, want %x", of, s, want)
	}
	n := 0
	for b := range 256 {
		in := want[b/64]&(1<<(b%64)) != 0
		if in {
			n++
		}
		if s.Has(byte(b)) != in {
			t.Errorf("8.1: %s: Has(%d): %v", of, b, !in)
		}
	}
	if s.Count() != n {
		t.Errorf("8.1: %s: Count: %d, want %d", of, s.Count(), n)
	}
}
