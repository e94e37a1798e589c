package value

import (
	"tailrace/api"
	"tailrace/num"
	"tailrace/pack"
)

const floatSize = 8 // bytes of a number

// Lay: the bytes of a value.
func Lay(w *pack.Writer, v api.Val) {
	if w == nil {
		return
	}
	v = taken(v)
	w.Byte(byte(v.Kind))
	switch v.Kind {
	case api.Num:
		w.Float(v.N)
	case api.Str, api.StrNum:
		w.Text(v.S)
	}
}

// Read: a value of its bytes; Unset, where r finds something wrong with them and keeps it.
func Read(r *pack.Reader) (api.Val, api.Errno) {
	if r == nil {
		return api.Val{}, api.ErrArg
	}
	v, ok := api.Val{Kind: int(r.Byte(api.StrNum))}, true
	switch v.Kind {
	case api.Num:
		v.N, ok = readFloat(r)
	case api.Str:
		v.S, ok = readText(r)
	case api.StrNum:
		v.S, ok = readText(r)
		v.N, _ = num.Prefix(v.S)
	}
	if !ok {
		return api.Val{}, api.OK
	}
	if !Right(v) {
		return api.Val{}, api.ErrForm
	}
	return v, api.OK
}

// readFloat reads a number; false, if r finds something wrong.
func readFloat(r *pack.Reader) (float64, bool) {
	before := *r
	x := r.Float()
	return x, x != 0 || minusZero(x) || noughtsNext(before, floatSize)
}

// readText reads a text; false, if r finds something wrong.
func readText(r *pack.Reader) (string, bool) {
	before := *r
	s := r.Text(api.MaxText)
	return s, s != "" || noughtsNext(before, 1)
}

// noughtsNext tells whether so many bytes 0 stand next, where nothing was found wrong before: as those a 0 and an empty text
// are laid, which are answered, too, where something is wrong. It asks a copy of the Reader, as asking takes the bytes, and
// as End does not tell a wrong form from bytes that are left.
func noughtsNext(r pack.Reader, n int) bool {
	for range n {
		r.Byte(0)
	}
	e := r.End()
	return e == api.OK || e == api.ErrForm
}

// Same: is it one and the same? No number is the same as no number, though it does not equal itself.
func Same(a, b api.Val) bool {
	return a.Kind == b.Kind && a.S == b.S && (a.N == b.N || a.N != a.N && b.N != b.N)
}
