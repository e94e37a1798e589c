package pack

import (
	"math"
	"testing"

	"tailrace/api"
)

// 1.2: the place stays where a call began in which something was wrong, and where one came behind it.
func TestPlaceStaysWhereSomethingIsWrong(t *testing.T) {
	const ahead = "\x01"
	for _, c := range []struct {
		given string
		wrong func(r *Reader)
		e     api.Errno
	}{
		{"", func(r *Reader) { r.Byte(9) }, api.ErrShort},
		{"\x0a", func(r *Reader) { r.Byte(9) }, api.ErrLong},
		{"\x80\x80", func(r *Reader) { r.Num(9) }, api.ErrShort},
		{"\x80\x00", func(r *Reader) { r.Num(9) }, api.ErrForm},
		{"\xac\x02", func(r *Reader) { r.Num(299) }, api.ErrLong},
		{"1234567", func(r *Reader) { r.Float() }, api.ErrShort},
		{"\xff\xff\xff\xff\xff\xff\xff\xff", func(r *Reader) { r.Float() }, api.ErrForm},
		{"\x80", func(r *Reader) { r.Text(9) }, api.ErrShort},
		{"\x80\x00", func(r *Reader) { r.Text(9) }, api.ErrForm},
		{"\x02ab", func(r *Reader) { r.Text(1) }, api.ErrLong},
		{"\x03ab", func(r *Reader) { r.Text(9) }, api.ErrShort},
	} {
		r := NewReader([]byte(ahead + c.given))
		r.Byte(9)
		c.wrong(r)
		r.Byte(255)
		r.Num(math.MaxUint64)
		r.Float()
		r.Text(math.MaxInt)
		if r.place != len(ahead) || r.End() != c.e {
			t.Errorf("of %q: at %d, %d, want %d", c.given, r.place, r.End(), c.e)
		}
	}
}

// 1.3: a part that is brought into its bounds is never -0, and is exact at the greatest that come up.
func TestWithin(t *testing.T) {
	for _, c := range []struct{ x, want float64 }{
		{0, 0},
		{1, 1},
		{-1, prime - 1},
		{prime - 1, prime - 1},
		{prime, 0},
		{prime + 1, 1},
		{-prime, 0},
		{-2 * prime, 0},
		{-2*prime - 1, prime - 1},
		{-3 * (prime - 1), 3},
		{257*(prime-1) + 256, prime - 1},
		{260 * (prime - 1), prime - 260},
		{257 * prime, 0},
		{257*prime - 1, prime - 1},
	} {
		if got := within(c.x); got != c.want || math.Signbit(got) {
			t.Errorf("within(%v): %v, want %v", c.x, got, c.want)
		}
	}
}

// 1.4: modulo a prime that leaves 3 by 4 the complex numbers are a field, so that no byte is turned unseen.
func TestPrime(t *testing.T) {
	if prime%4 != 3 {
		t.Errorf("it leaves %d", prime%4)
	}
	for d := 2; d*d <= prime; d++ {
		if prime%d == 0 {
			t.Errorf("%d divides it", d)
		}
	}
}
