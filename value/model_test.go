package value_test

import (
	"bytes"
	"encoding/binary"
	"math"
	"math/rand"
	"regexp"
	"strconv"
	"testing"

	"tailrace/api"
	"tailrace/printf"
	"tailrace/value"
)

// What the chapter says of texts that look like numbers, or begin with one, told as regular expressions.
const numeral = `[\t\n\v\f\r ]*([+-]?(?:[0-9]+(?:\.[0-9]*)?|\.[0-9]+)(?:[eE][+-]?[0-9]+)?)`

var (
	begins = regexp.MustCompile(`^` + numeral)
	looks  = regexp.MustCompile(`^` + numeral + `[\t\n\v\f\r ]*\z`)
)

// plainNumber tells the number that a text begins with; what is too great is an infinity.
func plainNumber(s string) float64 {
	m := begins.FindStringSubmatch(s)
	if m == nil {
		return 0
	}
	x, _ := strconv.ParseFloat(m[1], 64)
	if x == 0 {
		return 0
	}
	return x
}

// plainRight tells whether a value may be, by what each kind is.
func plainRight(v api.Val) bool {
	return is(v, unset) || is(v, number(v.N)) && !is(v, number(minus)) || is(v, text(v.S)) && len(v.S) <= api.MaxText ||
		is(v, strnum(v.S, plainNumber(v.S))) && looks.MatchString(v.S) && len(v.S) <= api.MaxText
}

// plainText tells a value as a text.
func plainText(v api.Val, f string) (string, api.Errno) {
	if v.Kind == api.Num {
		return printf.Number(v.N, f)
	}
	return v.S, api.OK
}

// plainAs tells a value as a number.
func plainAs(v api.Val) float64 {
	if v.Kind == api.Num {
		return v.N
	}
	return plainNumber(v.S)
}

// plainCompare tells how two stand to each other.
func plainCompare(a, b api.Val, f string) (int, api.Errno) {
	if a.Kind != api.Str && b.Kind != api.Str {
		x, y := plainAs(a), plainAs(b)
		if x < y {
			return -1, api.OK
		}
		if x == y {
			return 0, api.OK
		}
		return 1, api.OK
	}
	x, e := plainText(a, f)
	y, d := plainText(b, f)
	if e != api.OK || d != api.OK {
		return 0, max(e, d) // one of the two alone may be a fault, as the other one is a Str
	}
	return bytes.Compare([]byte(x), []byte(y)), api.OK
}

// plainArith tells what an operation makes of two numbers.
func plainArith(op string, x, y float64) (api.Val, api.Errno) {
	var z float64
	switch {
	case op == "+":
		z = x + y
	case op == "-":
		z = x - y
	case op == "*":
		z = x * y
	case (op == "/" || op == "%") && y == 0:
		return unset, api.FaultZero
	case op == "/":
		z = x / y
	case op == "%":
		z = math.Mod(x, y)
	case op == "^":
		z = math.Pow(x, y)
	default:
		return unset, api.OK
	}
	if is(number(z), number(minus)) {
		z = 0
	}
	return number(z), api.OK
}

// plainFloat reads what stands behind a byte 1, and tells what is left.
func plainFloat(b []byte) (v api.Val, e api.Errno, left []byte, end api.Errno) {
	if len(b) < 8 {
		return unset, api.OK, nil, api.ErrShort
	}
	bits := binary.LittleEndian.Uint64(b)
	x := math.Float64frombits(bits)
	if math.IsNaN(x) && bits != math.Float64bits(math.NaN()) {
		return unset, api.OK, nil, api.ErrForm
	}
	if bits == 1<<63 {
		return unset, api.ErrForm, b[8:], api.OK
	}
	return number(x), api.OK, b[8:], api.OK
}

// plainSize reads a number of bytes, and tells how many bytes it has itself.
func plainSize(b []byte) (n, size int, wrong api.Errno) {
	x, size := binary.Uvarint(b)
	switch {
	case size == 0 && len(b) < 10:
		return 0, 0, api.ErrShort
	case size <= 0 || size != len(binary.AppendUvarint(nil, x)):
		return 0, 0, api.ErrForm
	case x > api.MaxText:
		return 0, 0, api.ErrLong
	case x > uint64(len(b)-size):
		return 0, 0, api.ErrShort
	}
	return int(x), size, api.OK
}

// plainRead tells what Read answers of bytes, and what the Reader's End tells behind it.
func plainRead(b []byte) (v api.Val, e, end api.Errno) {
	if len(b) == 0 {
		return unset, api.OK, api.ErrShort
	}
	kind, left := b[0], b[1:]
	switch {
	case kind > 3:
		return unset, api.OK, api.ErrLong
	case kind == 1:
		v, e, left, end = plainFloat(left)
	case kind > 1:
		n, size, wrong := plainSize(left)
		if wrong != api.OK {
			return unset, api.OK, wrong
		}
		s := string(left[size : size+n])
		left = left[size+n:]
		v = text(s)
		if kind == 3 {
			v = strnum(s, plainNumber(s))
		}
		if !plainRight(v) {
			v, e = unset, api.ErrForm
		}
	}
	if end == api.OK && len(left) > 0 {
		end = api.ErrForm
	}
	return v, e, end
}

// readsPlainly wants of bytes what the model reads.
func readsPlainly(t *testing.T, b string) {
	t.Helper()
	v, e, end := plainRead([]byte(b))
	readsOf(t, b, v, e, end)
}

// holds wants of a value what the model tells.
func holds(t *testing.T, v api.Val) {
	t.Helper()
	if value.Right(v) != plainRight(v) {
		t.Errorf("13.1: Right(%s): %v", short(v), !plainRight(v))
	}
	if !plainRight(v) {
		v = unset
	}
	numbers(t, v, plainAs(v))
	counts(t, v, v.Kind == api.Str && v.S != "" || v.Kind != api.Str && plainAs(v) != 0)
	for _, f := range []string{conv, "%d|%.3e", "%q"} {
		if want, e := plainText(v, f); e != api.OK {
			faults(t, v, f, e)
		} else {
			reads(t, v, f, want)
		}
	}
	readsOf(t, string(laid(v)), v, api.OK, api.OK)
}

// holdsOfTwo wants of two values that are right what the model tells.
func holdsOfTwo(t *testing.T, v, w api.Val) {
	t.Helper()
	for _, f := range []string{conv, "%q"} {
		if want, e := plainCompare(v, w, f); e != api.OK {
			comparesFault(t, v, w, f, e)
		} else {
			comparesBy(t, v, w, f, want)
		}
	}
	for _, op := range []string{"+", "-", "*", "/", "%", "^", "x"} {
		want, e := plainArith(op, plainAs(v), plainAs(w))
		if x, d := value.Arith(op, v, w); !is(x, want) || d != e {
			t.Errorf("13.3: Arith(%s, %s, %s): %s %d, want %s %d", op, short(v), short(w), short(x), d, short(want), e)
		}
	}
}

// allTexts tells all texts of these bytes that are no longer than n.
func allTexts(bytes string, n int) []string {
	l := []string{""}
	from := 0
	for range n {
		to := len(l)
		for _, s := range l[from:to] {
			for i := range len(bytes) {
				l = append(l, s+bytes[i:i+1])
			}
		}
		from = to
	}
	return l
}

// 13.1, 13.2 and W4: all short texts of the bytes that bear a meaning.
func TestAllShortTexts(t *testing.T) {
	for _, s := range allTexts("01.e- x", 5) {
		made(t, "13.1", "FromText", value.FromText(s), text(s))
		want := text(s)
		if looks.MatchString(s) {
			want = strnum(s, plainNumber(s))
		}
		made(t, "13.1", "Outside", value.Outside(s), want)
		for _, v := range []api.Val{text(s), strnum(s, plainNumber(s)), strnum(s, 1), {S: s}} {
			if value.Right(v) != plainRight(v) {
				t.Errorf("13.1: Right(%s): %v", short(v), !plainRight(v))
			}
		}
		holds(t, text(s))
		holds(t, want)
	}
}

// 13.3 and W4: all short rows of the bytes that bear a meaning.
func TestAllShortBytes(t *testing.T) {
	for _, s := range allTexts("\x00\x01\x02\x03\x04\x801x", 5) {
		readsPlainly(t, s)
	}
	for _, s := range allTexts("\x00\x01\x80\x7f\xf0", 4) {
		readsPlainly(t, "\x01\x00\x00\x00\x00"+s)
		readsPlainly(t, "\x01"+s+"\x00\xf8\x7f\x00")
		readsPlainly(t, "\x01"+s+"\x00\x00\x00\x00\x00")
	}
}

// 13.2, 13.3 and W4: each value with each.
func TestEachWithEach(t *testing.T) {
	l := rights()
	for _, v := range l {
		holds(t, v)
		for _, w := range l {
			holdsOfTwo(t, v, w)
		}
	}
}

// picked tells values of all kinds, right and not.
func picked(n int) []api.Val {
	pick := rand.New(rand.NewSource(13))
	var l []api.Val
	for len(l) < n {
		b := make([]byte, pick.Intn(9)*pick.Intn(9)*pick.Intn(9))
		for i := range b {
			b[i] = "00123456789..eE+-  \n\tx\x00\xff"[pick.Intn(24)]
		}
		s := string(b)
		x := math.Float64frombits(pick.Uint64())
		y := float64(pick.Int63()>>pick.Intn(63)) / float64(int(1)<<pick.Intn(20))
		l = append(l, number(x), number(y), number(-y), value.FromText(s), value.Outside(s), text(s), strnum(s, y), api.Val{Kind: pick.Intn(6), N: y, S: s})
	}
	return l
}

// 13.1 to 13.3 and W4: picked values, alone, in pairs, and their bytes.
func TestPicked(t *testing.T) {
	l := picked(3000)
	for i, v := range l {
		holds(t, v)
		w := l[(i*7+3)%len(l)]
		if plainRight(v) && plainRight(w) {
			holdsOfTwo(t, v, w)
		}
		b := string(laid(v, w))
		readsPlainly(t, b)
		readsPlainly(t, b[:len(b)/2])
		readsPlainly(t, b[i%len(b):])
	}
}
