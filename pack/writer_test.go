package pack_test

import (
	"bytes"
	"math"
	"strings"
	"testing"

	"tailrace/pack"
)

// laid tells what a new Writer has laid when lay is done with it.
func laid(lay func(w *pack.Writer)) []byte {
	w := pack.NewWriter()
	lay(w)
	return w.Bytes()
}

// 1.1, and the chapter's example.
func TestWriterLaysOneBehindTheOther(t *testing.T) {
	got := laid(func(w *pack.Writer) {
		w.Byte(7)
		w.Num(300)
		w.Text("ab")
	})
	if want := []byte{0x07, 0xac, 0x02, 0x02, 0x61, 0x62}; !bytes.Equal(got, want) {
		t.Errorf("laid % x, want % x", got, want)
	}
	if none := pack.NewWriter().Bytes(); len(none) != 0 {
		t.Errorf("a new Writer has laid % x", none)
	}
}

// 1.1: every byte is laid as it is.
func TestWriterByte(t *testing.T) {
	var want []byte
	w := pack.NewWriter()
	for b := range 256 {
		w.Byte(byte(b))
		want = append(want, byte(b))
	}
	if got := w.Bytes(); !bytes.Equal(got, want) {
		t.Errorf("laid % x", got)
	}
}

// nums are numbers at the edges of how many digits they have, with their bytes.
var nums = []struct {
	n uint64
	b []byte
}{
	{0, []byte{0}},
	{1, []byte{1}},
	{127, []byte{127}},
	{128, []byte{0x80, 1}},
	{129, []byte{0x81, 1}},
	{255, []byte{0xff, 1}},
	{256, []byte{0x80, 2}},
	{300, []byte{0xac, 2}},
	{1<<14 - 1, []byte{0xff, 0x7f}},
	{1 << 14, []byte{0x80, 0x80, 1}},
	{1 << 40, []byte{0x80, 0x80, 0x80, 0x80, 0x80, 0x20}},
	{1<<63 - 1, []byte{255, 255, 255, 255, 255, 255, 255, 255, 127}},
	{1 << 63, []byte{128, 128, 128, 128, 128, 128, 128, 128, 128, 1}},
	{math.MaxUint64, []byte{255, 255, 255, 255, 255, 255, 255, 255, 255, 1}},
}

// 1.1
func TestWriterNum(t *testing.T) {
	for _, c := range nums {
		if got := laid(func(w *pack.Writer) { w.Num(c.n) }); !bytes.Equal(got, c.b) {
			t.Errorf("Num(%d): % x, want % x", c.n, got, c.b)
		}
	}
}

// floats are floats of every kind, with their bytes.
var floats = []struct {
	x float64
	b []byte
}{
	{0, []byte{0, 0, 0, 0, 0, 0, 0, 0}},
	{math.Copysign(0, -1), []byte{0, 0, 0, 0, 0, 0, 0, 0x80}},
	{1, []byte{0, 0, 0, 0, 0, 0, 0xf0, 0x3f}},
	{-3, []byte{0, 0, 0, 0, 0, 0, 0x08, 0xc0}},
	{0.1, []byte{0x9a, 0x99, 0x99, 0x99, 0x99, 0x99, 0xb9, 0x3f}},
	{math.SmallestNonzeroFloat64, []byte{1, 0, 0, 0, 0, 0, 0, 0}},
	{math.MaxFloat64, []byte{0xff, 0xff, 0xff, 0xff, 0xff, 0xff, 0xef, 0x7f}},
	{math.Inf(1), []byte{0, 0, 0, 0, 0, 0, 0xf0, 0x7f}},
	{math.Inf(-1), []byte{0, 0, 0, 0, 0, 0, 0xf0, 0xff}},
	{math.NaN(), []byte{1, 0, 0, 0, 0, 0, 0xf8, 0x7f}},
}

// otherNaNs are no numbers either, but not math.NaN.
var otherNaNs = []uint64{
	0x7ff8000000000000, 0x7ff8000000000002, 0x7ff0000000000001,
	0xfff8000000000001, 0xfff0000000000001, 0x7fffffffffffffff, 0xffffffffffffffff,
}

// 1.1
func TestWriterFloat(t *testing.T) {
	for _, c := range floats {
		if got := laid(func(w *pack.Writer) { w.Float(c.x) }); !bytes.Equal(got, c.b) {
			t.Errorf("Float(%g): % x, want % x", c.x, got, c.b)
		}
	}
	want := laid(func(w *pack.Writer) { w.Float(math.NaN()) })
	for _, bits := range otherNaNs {
		if got := laid(func(w *pack.Writer) { w.Float(math.Float64frombits(bits)) }); !bytes.Equal(got, want) {
			t.Errorf("Float of %x: % x, want math.NaN's % x", bits, got, want)
		}
	}
}

// 1.1: a text's length is a Num, and it counts bytes.
func TestWriterText(t *testing.T) {
	long := strings.Repeat("x", 200)
	for _, c := range []struct{ s, want string }{
		{"", "\x00"},
		{"a", "\x01a"},
		{"\x00\xff\n", "\x03\x00\xff\n"},
		{"\u00e9", "\x02\xc3\xa9"},
		{long, "\xc8\x01" + long},
	} {
		if got := laid(func(w *pack.Writer) { w.Text(c.s) }); string(got) != c.want {
			t.Errorf("Text(%q): %q, want %q", c.s, got, c.want)
		}
	}
}

// R2: what Bytes told is its owner's, and what is laid later does not reach it.
func TestWriterTellsNewMemory(t *testing.T) {
	w := pack.NewWriter()
	w.Text("abc")
	first := w.Bytes()
	first[1] = 'X'
	spare := first[:cap(first)]
	for i := range spare {
		spare[i] = 'Y'
	}
	second := w.Bytes()
	if string(second) != "\x03abc" {
		t.Fatalf("the Writer was changed from outside: %q", second)
	}
	w.Byte('d')
	third := w.Bytes()
	if string(append(second, 'Z')) != "\x03abcZ" || string(third) != "\x03abcd" || string(w.Bytes()) != "\x03abcd" {
		t.Errorf("answers share memory: %q %q %q", second, third, w.Bytes())
	}
}

// R8
func TestWritersKnowNothingOfOneAnother(t *testing.T) {
	a, b := pack.NewWriter(), pack.NewWriter()
	a.Byte(1)
	b.Byte(2)
	if !bytes.Equal(a.Bytes(), []byte{1}) || !bytes.Equal(b.Bytes(), []byte{2}) {
		t.Errorf("% x and % x", a.Bytes(), b.Bytes())
	}
}
