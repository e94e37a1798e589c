package pack_test

import (
	"bytes"
	"math"
	"testing"

	"tailrace/api"
	"tailrace/pack"
)

// 1.2, and the chapter's example.
func TestReaderReadsOneBehindTheOther(t *testing.T) {
	r := pack.NewReader([]byte{0x07, 0xac, 0x02, 0x02, 0x61, 0x62})
	b, n, s := r.Byte(9), r.Num(300), r.Text(5)
	if e := r.End(); b != 7 || n != 300 || s != "ab" || e != api.OK {
		t.Errorf("%d %d %q %d", b, n, s, e)
	}
}

// 1.2
func TestReaderByte(t *testing.T) {
	for _, c := range []struct {
		given string
		most  byte
		want  byte
		e     api.Errno
	}{
		{"", 255, 0, api.ErrShort},
		{"", 0, 0, api.ErrShort},
		{"\x00", 0, 0, api.OK},
		{"\x01", 0, 0, api.ErrLong},
		{"\x09", 8, 0, api.ErrLong},
		{"\x09", 9, 9, api.OK},
		{"\xff", 254, 0, api.ErrLong},
		{"\xff", 255, 255, api.OK},
	} {
		r := pack.NewReader([]byte(c.given))
		if b := r.Byte(c.most); b != c.want || r.End() != c.e {
			t.Errorf("of %q Byte(%d): %d, %d", c.given, c.most, b, r.End())
		}
	}
}

// 1.2: numbers are read up to their bound, and not below it.
func TestReaderNum(t *testing.T) {
	for _, c := range nums {
		for _, most := range []uint64{c.n, math.MaxUint64} {
			r := pack.NewReader(c.b)
			if n := r.Num(most); n != c.n || r.End() != api.OK {
				t.Errorf("of % x Num(%d): %d, %d", c.b, most, n, r.End())
			}
		}
		if c.n == 0 {
			continue
		}
		r := pack.NewReader(c.b)
		if n := r.Num(c.n - 1); n != 0 || r.End() != api.ErrLong {
			t.Errorf("of % x Num(%d): %d, %d", c.b, c.n-1, n, r.End())
		}
	}
}

// 1.2: what is wrong with a number, and what of it comes first.
func TestReaderNumWrong(t *testing.T) {
	nine := "\x80\x80\x80\x80\x80\x80\x80\x80\x80"
	for _, c := range []struct {
		given string
		most  uint64
		e     api.Errno
	}{
		{"", math.MaxUint64, api.ErrShort},
		{"\x80", 9, api.ErrShort},
		{"\xff\xff", 0, api.ErrShort},
		{nine, 0, api.ErrShort},
		{"\x80\x00", 9, api.ErrForm},
		{"\xac\x00", 9, api.ErrForm},
		{"\xff\xff\x00", 0, api.ErrForm},
		{nine + "\x00", math.MaxUint64, api.ErrForm},
		{nine + "\x02", math.MaxUint64, api.ErrForm},
		{nine + "\x7f", 0, api.ErrForm},
		{nine + "\x80", math.MaxUint64, api.ErrForm},
		{nine + "\x81\x01", math.MaxUint64, api.ErrForm},
		{nine + "\x01", 1<<63 - 1, api.ErrLong},
		{"\xac\x02", 299, api.ErrLong},
		{"\xac\x02\x00", 0, api.ErrLong},
	} {
		r := pack.NewReader([]byte(c.given))
		if n := r.Num(c.most); n != 0 || r.End() != c.e {
			t.Errorf("of %q Num(%d): %d, %d, want %d", c.given, c.most, n, r.End(), c.e)
		}
	}
}

// 1.2
func TestReaderFloat(t *testing.T) {
	for _, c := range floats {
		r := pack.NewReader(c.b)
		if x := r.Float(); math.Float64bits(x) != math.Float64bits(c.x) || r.End() != api.OK {
			t.Errorf("of % x: %g, %d", c.b, x, r.End())
		}
		for k := range c.b {
			r := pack.NewReader(c.b[:k])
			if x := r.Float(); x != 0 || r.End() != api.ErrShort {
				t.Errorf("of % x: %g, %d", c.b[:k], x, r.End())
			}
		}
	}
	for _, bits := range otherNaNs {
		var b []byte
		for i := range 8 {
			b = append(b, byte(bits>>(8*i)))
		}
		r := pack.NewReader(b)
		if x := r.Float(); x != 0 || r.End() != api.ErrForm {
			t.Errorf("of % x: %g, %d", b, x, r.End())
		}
	}
}

// 1.2
func TestReaderText(t *testing.T) {
	for _, c := range []struct {
		given string
		most  int
		want  string
		e     api.Errno
	}{
		{"\x00", 0, "", api.OK},
		{"\x00", -1, "", api.OK},
		{"\x00", math.MinInt, "", api.OK},
		{"\x02ab", 2, "ab", api.OK},
		{"\x02a\x00", math.MaxInt, "a\x00", api.OK},
		{"\x01a", -1, "", api.ErrLong},
		{"\x01a", 0, "", api.ErrLong},
		{"\x02ab", 1, "", api.ErrLong},
		{"", 9, "", api.ErrShort},
		{"\x80", 9, "", api.ErrShort},
		{"\x80\x00", 9, "", api.ErrForm},
		{"\x03ab", 3, "", api.ErrShort},
		{"\x03ab", 2, "", api.ErrLong},
		{"\xff\xff\xff\xff\xff\xff\xff\xff\x7fab", math.MaxInt, "", api.ErrShort},
		{"\xff\xff\xff\xff\xff\xff\xff\xff\xff\x01ab", math.MaxInt, "", api.ErrLong},
	} {
		r := pack.NewReader([]byte(c.given))
		if s := r.Text(c.most); s != c.want || r.End() != c.e {
			t.Errorf("of %q Text(%d): %q, %d, want %q, %d", c.given, c.most, s, r.End(), c.want, c.e)
		}
	}
}

// 1.2: from what was wrong first on there is nothing, though what is left could be read.
func TestReaderKeepsWhatWasWrongFirst(t *testing.T) {
	for _, c := range []struct {
		given string
		wrong func(r *pack.Reader)
		e     api.Errno
	}{
		{"\x05\x05", func(r *pack.Reader) { r.Byte(4) }, api.ErrLong},
		{"\x05\x05", func(r *pack.Reader) { r.Num(4) }, api.ErrLong},
		{"\x80\x00\x05", func(r *pack.Reader) { r.Num(4) }, api.ErrForm},
		{"\x01\x05", func(r *pack.Reader) { r.Float() }, api.ErrShort},
		{"\x01\x00\x00\x00\x00\x00\xf8\xff\x05", func(r *pack.Reader) { r.Float() }, api.ErrForm},
		{"\x03ab", func(r *pack.Reader) { r.Text(9) }, api.ErrShort},
		{"\x01a\x05", func(r *pack.Reader) { r.Text(0) }, api.ErrLong},
	} {
		r := pack.NewReader([]byte(c.given + "12345678"))
		if c.e == api.ErrShort {
			r = pack.NewReader([]byte(c.given))
		}
		for range 2 {
			c.wrong(r)
			b, n, x, s := r.Byte(255), r.Num(math.MaxUint64), r.Float(), r.Text(math.MaxInt)
			if b != 0 || n != 0 || x != 0 || s != "" || r.End() != c.e {
				t.Errorf("of %q: %d %d %g %q, %d, want %d", c.given, b, n, x, s, r.End(), c.e)
			}
		}
	}
}

// 1.2: End keeps nothing of bytes that are left.
func TestReaderEnd(t *testing.T) {
	if e := pack.NewReader(nil).End(); e != api.OK {
		t.Errorf("of nothing: %d", e)
	}
	r := pack.NewReader([]byte{3, 4})
	for _, want := range []byte{3, 4} {
		if e := r.End(); e != api.ErrForm {
			t.Errorf("ahead of %d: %d", want, e)
		}
		if b := r.Byte(9); b != want {
			t.Errorf("%d, want %d", b, want)
		}
	}
	if e := r.End(); e != api.OK {
		t.Errorf("at the end: %d", e)
	}
}

// R2: what is handed in is neither kept nor changed.
func TestReaderKeepsNothingOfItsArgument(t *testing.T) {
	given := []byte{2, 'a', 'b', 'c'}
	r := pack.NewReader(given[:3])
	given[1] = 'X'
	if s := r.Text(2); s != "ab" || r.End() != api.OK {
		t.Errorf("%q, %d", s, r.End())
	}
	if want := []byte{2, 'X', 'b', 'c'}; !bytes.Equal(given, want) {
		t.Errorf("changed to %q", given)
	}
}
