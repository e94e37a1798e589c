package pack_test

import (
	"bytes"
	"math/rand"
	"testing"

	"tailrace/api"
	"tailrace/pack"
)

const prime = 16777199

// bytesOf makes n bytes, the same ones for the same seed.
func bytesOf(seed int64, n int) []byte {
	b := make([]byte, n)
	rand.New(rand.NewSource(seed)).Read(b)
	return b
}

// wholeSum reckons the sum in whole numbers.
func wholeSum(b []byte) (re, im int) {
	re = 1
	for _, x := range b {
		re, im = re*257-im*3+int(x)+1, re*3+im*257
		re, im = (re%prime+prime)%prime, im%prime
	}
	return re, im
}

// 1.3, and the chapter's example.
func TestSumOfFewBytes(t *testing.T) {
	for s, want := range map[string]complex128{
		"":         1,
		"\x00":     258 + 3i,
		"\x01":     259 + 3i,
		"a":        355 + 3i,
		"\xff":     513 + 3i,
		"\x00\x00": 66298 + 1545i,
	} {
		if z := pack.Sum([]byte(s)); z != want {
			t.Errorf("Sum(%q): %v, want %v", s, z, want)
		}
	}
	if z := pack.Sum(nil); z != 1 {
		t.Errorf("Sum(nil): %v", z)
	}
}

// 1.3: the parts are those of whole numbers modulo P, however many bytes there are.
func TestSumIsWhole(t *testing.T) {
	for n := range 400 {
		b := bytesOf(int64(n), n*7)
		re, im := wholeSum(b)
		if z := pack.Sum(b); z != complex(float64(re), float64(im)) {
			t.Fatalf("of %d bytes: %v, want %d %d", len(b), z, re, im)
		}
	}
	same := bytes.Repeat([]byte{255}, 1<<16)
	re, im := wholeSum(same)
	if z := pack.Sum(same); z != complex(float64(re), float64(im)) {
		t.Errorf("of many bytes 255: %v, want %d %d", z, re, im)
	}
}

// 1.3: each part of the Sum in three bytes, the lowest first.
func TestSeal(t *testing.T) {
	for _, c := range []struct{ b, want string }{
		{"", "\x01\x00\x00\x00\x00\x00"},
		{"a", "a\x63\x01\x00\x03\x00\x00"},
		{"\x00\x00", "\x00\x00\xfa\x02\x01\x09\x06\x00"},
	} {
		if s := pack.Seal([]byte(c.b)); string(s) != c.want {
			t.Errorf("Seal(%q): %q, want %q", c.b, s, c.want)
		}
	}
	b := bytesOf(1, 1000)
	re, im := wholeSum(b)
	want := append(bytes.Clone(b), byte(re), byte(re>>8), byte(re>>16), byte(im), byte(im>>8), byte(im>>16))
	if s := pack.Seal(b); !bytes.Equal(s, want) {
		t.Errorf("Seal ends with % x, want % x", s[len(b):], want[len(b):])
	}
}

// 1.3
func TestUnseal(t *testing.T) {
	for n := range 100 {
		b := bytesOf(int64(n), n*3)
		if u, e := pack.Unseal(pack.Seal(b)); e != api.OK || !bytes.Equal(u, b) {
			t.Errorf("of %d bytes: %d", len(b), e)
		}
	}
	if u, e := pack.Unseal(pack.Seal([]byte("a"))); e != api.OK || string(u) != "a" {
		t.Errorf("of a: %q, %d", u, e)
	}
}

// 1.3
func TestUnsealWrong(t *testing.T) {
	for _, c := range []struct {
		b string
		e api.Errno
	}{
		{"", api.ErrShort},
		{"\x01\x00\x00\x00\x00", api.ErrShort},
		{"\x00\x00\x00\x00\x00\x00", api.ErrSum},
		{"\x00\x00\x01\x00\x00\x00", api.ErrSum},
		{"\x00\x00\x00\x01\x00\x00", api.ErrSum},
		// The Sum of nothing, and P: it is the same modulo P, but it is not the Sum.
		{"\xf0\xff\xff\x00\x00\x00", api.ErrSum},
		{"\x01\x00\x00\xef\xff\xff", api.ErrSum},
		{"a\x63\x01\x00\x03\x00", api.ErrSum},
		{"a\x63\x01\x00\x03\x00\x00\x00", api.ErrSum},
		{"a\x03\x00\x00\x63\x01\x00", api.ErrSum},
	} {
		if u, e := pack.Unseal([]byte(c.b)); e != c.e || len(u) != 0 {
			t.Errorf("Unseal(%q): %q, %d, want %d", c.b, u, e, c.e)
		}
	}
}

// 1.4
func TestTurnedByteIsNeverUnsealed(t *testing.T) {
	for _, n := range []int{0, 1, 2, 40} {
		s := pack.Seal(bytesOf(int64(n), n))
		for at := range s {
			for turn := 1; turn < 256; turn++ {
				s[at] ^= byte(turn)
				if u, e := pack.Unseal(s); e != api.ErrSum || len(u) != 0 {
					t.Errorf("of %d bytes, at %d by %d: %d", n, at, turn, e)
				}
				s[at] ^= byte(turn)
			}
		}
	}
}

// R2: neither room nor memory is shared.
func TestSealAndUnsealShareNothing(t *testing.T) {
	room := []byte("abcdefghij")
	s := pack.Seal(room[:1])
	if string(room) != "abcdefghij" {
		t.Fatalf("Seal changed what lies behind: %q", room)
	}
	room[0] = 'X'
	if s[0] != 'a' {
		t.Errorf("Seal shares its argument: %q", s)
	}
	kept := bytes.Clone(s)
	u, _ := pack.Unseal(s)
	u[0] = 'Y'
	u = append(u, "zzzzzz"...)
	if !bytes.Equal(s, kept) {
		t.Errorf("Unseal shares its argument: %q, %q", s, u)
	}
}
