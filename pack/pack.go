// Package pack: numbers as bytes, sums: see DOC.md, chapter 1.
package pack

import (
	"bytes"
	"math"

	"tailrace/api"
)

const (
	more       = 128 // added to every digit of a number but the last
	digitBits  = 7
	mostDigits = 10 // of a number
	floatSize  = 8
)

// Writer lays bytes.
type Writer struct {
	laid []byte
}

func NewWriter() *Writer { return &Writer{} }

func (w *Writer) Byte(b byte) {
	w.laid = append(w.laid, b)
}

func (w *Writer) Num(n uint64) {
	for n >= more {
		w.Byte(byte(n) | more)
		n >>= digitBits
	}
	w.Byte(byte(n))
}

func (w *Writer) Float(x float64) {
	if math.IsNaN(x) {
		// Many bit patterns are no number: one stands for all, so that like values are like bytes.
		x = math.NaN()
	}
	bits := math.Float64bits(x)
	for range floatSize {
		w.Byte(byte(bits))
		bits >>= 8
	}
}

func (w *Writer) Text(s string) {
	w.Num(uint64(len(s)))
	w.laid = append(w.laid, s...)
}

func (w *Writer) Bytes() []byte {
	return bytes.Clone(w.laid)
}

// Reader reads them, and keeps what was wrong first.
type Reader struct {
	given []byte
	place int
	wrong api.Errno
}

func NewReader(b []byte) *Reader {
	return &Reader{given: bytes.Clone(b)}
}

func (r *Reader) Byte(most byte) byte {
	if r.wrong != api.OK {
		return 0
	}
	left := r.left()
	if len(left) == 0 {
		r.wrong = api.ErrShort
		return 0
	}
	if left[0] > most {
		r.wrong = api.ErrLong
		return 0
	}
	r.place++
	return left[0]
}

func (r *Reader) Num(most uint64) uint64 {
	if r.wrong != api.OK {
		return 0
	}
	n, size, wrong := number(r.left())
	if wrong == api.OK && n > most {
		wrong = api.ErrLong
	}
	if wrong != api.OK {
		r.wrong = wrong
		return 0
	}
	r.place += size
	return n
}

func (r *Reader) Float() float64 {
	if r.wrong != api.OK {
		return 0
	}
	left := r.left()
	if len(left) < floatSize {
		r.wrong = api.ErrShort
		return 0
	}
	var bits uint64
	for i := range floatSize {
		bits |= uint64(left[i]) << (8 * i)
	}
	x := math.Float64frombits(bits)
	if math.IsNaN(x) && bits != math.Float64bits(math.NaN()) {
		// No Writer lays it: it would not be laid again as the same bytes.
		r.wrong = api.ErrForm
		return 0
	}
	r.place += floatSize
	return x
}

func (r *Reader) Text(most int) string {
	began := r.place
	size := r.Num(uint64(max(most, 0)))
	if r.wrong != api.OK {
		return ""
	}
	left := r.left()
	if size > uint64(len(left)) {
		r.wrong = api.ErrShort
		r.place = began
		return ""
	}
	r.place += int(size)
	return string(left[:size])
}

func (r *Reader) End() api.Errno {
	if r.wrong == api.OK && len(r.left()) > 0 {
		return api.ErrForm
	}
	return r.wrong
}

func (r *Reader) left() []byte {
	return r.given[r.place:]
}

// number reads the number that b begins with, and how many bytes it has.
func number(b []byte) (n uint64, size int, wrong api.Errno) {
	for i, digit := range b {
		// The tenth digit has room for one bit alone; nothing follows it.
		if i == mostDigits-1 && digit > 1 {
			return 0, 0, api.ErrForm
		}
		n |= uint64(digit&^more) << (digitBits * i)
		if digit >= more {
			continue
		}
		// A highest digit that is 0 would be a second form of the same number.
		if digit == 0 && i > 0 {
			return 0, 0, api.ErrForm
		}
		return n, i + 1, api.OK
	}
	return 0, 0, api.ErrShort
}
