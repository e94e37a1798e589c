package value_test

import (
	"math"
	"testing"

	"tailrace/api"
	"tailrace/pack"
	"tailrace/value"
)

// readsOf wants this value and error of bytes, and this of the Reader's End behind it.
func readsOf(t *testing.T, b string, want api.Val, e, end api.Errno) {
	t.Helper()
	r := pack.NewReader([]byte(b))
	if v, wrong := value.Read(r); !is(v, want) || wrong != e || r.End() != end {
		t.Errorf("13.3: Read of % .40x (%d bytes): %s %d, End %d, want %s %d, %d", b, len(b), short(v), wrong, r.End(), short(want), e, end)
	}
}

// floatBytes tells a float's bits as bytes, the lowest first.
func floatBytes(bits uint64) string {
	var b []byte
	for range 8 {
		b = append(b, byte(bits))
		bits >>= 8
	}
	return string(b)
}

// 13.3: a value's bytes.
func TestLay(t *testing.T) {
	for _, c := range []struct {
		v    api.Val
		want string
	}{
		{unset, "\x00"},
		{number(0), "\x01\x00\x00\x00\x00\x00\x00\x00\x00"},
		{number(1), "\x01\x00\x00\x00\x00\x00\x00\xf0\x3f"},
		{number(-2), "\x01\x00\x00\x00\x00\x00\x00\x00\xc0"},
		{number(smallest), "\x01\x01\x00\x00\x00\x00\x00\x00\x00"},
		{number(inf), "\x01\x00\x00\x00\x00\x00\x00\xf0\x7f"},
		{number(nan), "\x01\x01\x00\x00\x00\x00\x00\xf8\x7f"},
		{text(""), "\x02\x00"},
		{text("ab"), "\x02\x02ab"},
		{text("10"), "\x02\x0210"},
		{text("\x00\xff"), "\x02\x02\x00\xff"},
		{text(many("a", 127)), "\x02\x7f" + many("a", 127)},
		{text(many("a", 128)), "\x02\x80\x01" + many("a", 128)},
		{text(many("a", api.MaxText)), "\x02\x80\x02" + many("a", api.MaxText)},
		{strnum("10", 10), "\x03\x0210"},
		{strnum(" -0\n", 0), "\x03\x04 -0\n"},
		{strnum("1e999", inf), "\x03\x051e999"},
		{strnum(many("0", api.MaxText), 0), "\x03\x80\x02" + many("0", api.MaxText)},
	} {
		if b := laid(c.v); string(b) != c.want {
			t.Errorf("13.3: Lay(%s): % x, want % x", short(c.v), b, c.want)
		}
		readsOf(t, c.want, c.v, api.OK, api.OK)
	}
	for _, x := range noNumbers() {
		if b := laid(number(x)); string(b) != "\x01"+floatBytes(math.Float64bits(math.NaN())) {
			t.Errorf("13.3: Lay of what is no number: % x", b)
		}
	}
}

// 13.3: values behind one another, and behind other things.
func TestLayBehindOthers(t *testing.T) {
	w := pack.NewWriter()
	w.Text("ab")
	for _, v := range []api.Val{unset, text("c"), unset, strnum("7", 7), number(1), {Kind: 9}} {
		value.Lay(w, v)
	}
	w.Num(300)
	const want = "\x02ab\x00\x02\x01c\x00\x03\x017\x01\x00\x00\x00\x00\x00\x00\xf0\x3f\x00\xac\x02"
	if b := w.Bytes(); string(b) != want {
		t.Errorf("13.3: % x, want % x", b, want)
	}
}

// 13.3: what is laid is read as it was, and nothing is left; laid again it is the same bytes.
func TestLaidIsRead(t *testing.T) {
	for _, v := range rights() {
		b := laid(v)
		readsOf(t, string(b), v, api.OK, api.OK)
		again, _ := value.Read(pack.NewReader(b))
		if x := laid(again); string(x) != string(b) {
			t.Errorf("13.3: %s: laid again % x, want % x", short(v), x, b)
		}
	}
	l := rights()
	r := pack.NewReader(laid(l...))
	for _, want := range l {
		if v, e := value.Read(r); !is(v, want) || e != api.OK {
			t.Errorf("13.3: in a row: %s %d, want %s", short(v), e, short(want))
		}
	}
	if e := r.End(); e != api.OK {
		t.Errorf("13.3: in a row: %d", e)
	}
}

// 13.3: bytes behind a value are left, whatever they are, 0 too.
func TestReadLeavesWhatIsBehind(t *testing.T) {
	for _, v := range rights() {
		for _, behind := range []string{"\x00", "\x01", "\xff", "\x00\x00\x00\x00\x00\x00\x00\x00\x00", "\x80\x00", "7"} {
			b := string(laid(v)) + behind
			readsOf(t, b, v, api.OK, api.ErrForm)
			r := pack.NewReader([]byte(b))
			value.Read(r)
			for i := range len(behind) {
				if x := r.Byte(255); x != behind[i] {
					t.Errorf("13.3: behind %s: %d, want %d", short(v), x, behind[i])
				}
			}
			if e := r.End(); e != api.OK {
				t.Errorf("13.3: behind %s: %d", short(v), e)
			}
		}
	}
}

// 13.3: bytes that are cut off at each place are Unset, not the beginning of a text, nor 0; the Reader tells it.
func TestReadCutOff(t *testing.T) {
	for _, v := range rights() {
		b := string(laid(v))
		for k := range b {
			readsOf(t, b[:k], unset, api.OK, api.ErrShort)
		}
	}
	for k := range 8 {
		readsOf(t, "\x01"+many("\x00", k), unset, api.OK, api.ErrShort)
	}
	readsOf(t, "\x02\x80", unset, api.OK, api.ErrShort)
	readsOf(t, "\x03\x80", unset, api.OK, api.ErrShort)
}

// turns tells what a byte is turned to: near the beginning all there are, further on those that bear a meaning.
func turns(place int, was byte) []byte {
	if place >= 12 {
		return []byte{was ^ 1, was ^ 0x80, 0, '0', ' ', 'x', '.', '-', 'e', 0xff}
	}
	var l []byte
	for x := range 256 {
		l = append(l, byte(x))
	}
	return l
}

// 13.3: each byte turned: what comes of it is what the bytes say.
func TestReadTurned(t *testing.T) {
	for _, v := range append(rights(), text("0"), text(" 1"), strnum("1e5", 1e5), strnum("-1.5 ", -1.5)) {
		b := laid(v)
		for i, was := range b {
			for _, x := range turns(i, was) {
				b[i] = x
				readsPlainly(t, string(b))
				readsPlainly(t, string(b)+"\x00")
				readsPlainly(t, string(b)+"x")
			}
			b[i] = was
		}
	}
}

// 13.3: kinds above 3.
func TestReadKinds(t *testing.T) {
	for kind := 4; kind < 256; kind++ {
		for _, behind := range []string{"", "\x00", "\x01a", "\x00\x00\x00\x00\x00\x00\xf0\x3f"} {
			readsOf(t, string([]byte{byte(kind)})+behind, unset, api.OK, api.ErrLong)
		}
	}
}

// 13.3: texts longer than MaxText, numbers of bytes that are none, and fewer bytes than they say.
func TestReadWrongTexts(t *testing.T) {
	for _, kind := range []string{"\x02", "\x03"} {
		readsOf(t, kind+"\x81\x02"+many("7", api.MaxText+1), unset, api.OK, api.ErrLong)
		readsOf(t, kind+"\x81\x02", unset, api.OK, api.ErrLong)
		readsOf(t, kind+"\xff\xff\xff\xff\xff\xff\xff\xff\xff\x01", unset, api.OK, api.ErrLong)
		readsOf(t, kind+"\xff\xff\xff\xff\xff\xff\xff\xff\xff\x02", unset, api.OK, api.ErrForm)
		readsOf(t, kind+"\x80\x00", unset, api.OK, api.ErrForm)
		readsOf(t, kind+"\x82\x00"+"77", unset, api.OK, api.ErrForm)
		readsOf(t, kind+"\x80\x80\x00", unset, api.OK, api.ErrForm)
		readsOf(t, kind+"\x80\x02"+many("7", api.MaxText-1), unset, api.OK, api.ErrShort)
		readsOf(t, kind+"\x02"+"7", unset, api.OK, api.ErrShort)
		readsOf(t, kind, unset, api.OK, api.ErrShort)
	}
	readsOf(t, "\x02\x80\x02"+many("7", api.MaxText), text(many("7", api.MaxText)), api.OK, api.OK)
	readsOf(t, "\x02\x80\x02"+many("7", api.MaxText+1), text(many("7", api.MaxText)), api.OK, api.ErrForm)
	readsOf(t, "\x03\x80\x02"+many("0", api.MaxText), strnum(many("0", api.MaxText), 0), api.OK, api.OK)
	// A StrNum that is cut off is not one whose text does not look like a number.
	readsOf(t, "\x03\x02x", unset, api.OK, api.ErrShort)
}

// 13.3: floats that are no number, but not as they are laid: the Reader's fault; -0: the value's.
func TestReadWrongFloats(t *testing.T) {
	for _, bits := range []uint64{0x7ff0000000000001, 0x7ff8000000000000, 0x7ff8000000000002, 0xfff8000000000001, 0x7fff000000000000, 1<<64 - 1, 0xfff0000000000001, 0x7ff0010000000000} {
		readsOf(t, "\x01"+floatBytes(bits), unset, api.OK, api.ErrForm)
		readsOf(t, "\x01"+floatBytes(bits)+"\x00", unset, api.OK, api.ErrForm)
	}
	readsOf(t, "\x01"+floatBytes(0x7ff8000000000001), number(nan), api.OK, api.OK)
	readsOf(t, "\x01"+floatBytes(1<<63), unset, api.ErrForm, api.OK)
	readsOf(t, "\x01"+floatBytes(1<<63)+"\x00", unset, api.ErrForm, api.ErrForm)
	readsOf(t, "\x01"+floatBytes(1<<63|1), number(-smallest), api.OK, api.OK)
	readsOf(t, "\x01"+floatBytes(0), number(0), api.OK, api.OK)
	readsOf(t, "\x01"+floatBytes(0)+many("\x00", 20), number(0), api.OK, api.ErrForm)
	for i := range 8 {
		b := []byte("\x01" + floatBytes(0))
		b[1+i] = 0x40
		readsOf(t, string(b), number(math.Float64frombits(0x40<<(8*i))), api.OK, api.OK)
	}
}

// 13.3: a StrNum whose text does not look like a number is not right; the bytes were read.
func TestReadNotRight(t *testing.T) {
	for _, s := range []string{"", "x", "10x", " ", "-", ".", "e1", "1e", "0x1", "nan", "inf", "1 1", "\x001", many("1", api.MaxText-1) + "x", many(" ", api.MaxText)} {
		w := pack.NewWriter()
		w.Byte(api.StrNum)
		w.Text(s)
		b := string(w.Bytes())
		readsOf(t, b, unset, api.ErrForm, api.OK)
		readsOf(t, b+"\x00", unset, api.ErrForm, api.ErrForm)
		r := pack.NewReader([]byte(b + "\x02\x01a"))
		value.Read(r)
		if v, e := value.Read(r); !is(v, text("a")) || e != api.OK || r.End() != api.OK {
			t.Errorf("13.3: behind %q: %s %d, %d", s, short(v), e, r.End())
		}
	}
}

// 13.3: a Reader that found something wrong ahead: Unset, and what it found stays.
func TestReadBehindAFault(t *testing.T) {
	for _, v := range append(rights(), strnum("x", 0)) {
		for want, ahead := range map[api.Errno]string{api.ErrLong: "\x0a", api.ErrForm: "\x80\x00"} {
			r := pack.NewReader([]byte(ahead + string(laid(v))))
			r.Num(9)
			for range 2 {
				if x, e := value.Read(r); !is(x, unset) || e != api.OK || r.End() != want {
					t.Errorf("13.3: %s behind a fault: %s %d, %d, want %d", short(v), short(x), e, r.End(), want)
				}
			}
		}
	}
	r := pack.NewReader([]byte("\x02"))
	for range 3 {
		if x, e := value.Read(r); !is(x, unset) || e != api.OK || r.End() != api.ErrShort {
			t.Errorf("13.3: %s %d, %d", short(x), e, r.End())
		}
	}
}

// 13.3: each value is the same as itself, and as no other one.
func TestSame(t *testing.T) {
	l := append(rights(), wrongs()...)
	for _, v := range l {
		for _, w := range l {
			want := v.Kind == w.Kind && v.S == w.S && (v.N == w.N || math.IsNaN(v.N) && math.IsNaN(w.N))
			if value.Same(v, w) != want {
				t.Errorf("13.3: Same(%s, %s): %v", short(v), short(w), !want)
			}
		}
	}
}

// 13.3: values that part in one field alone, also where one is not right; no number on one side, and on both.
func TestSameInEachField(t *testing.T) {
	for _, c := range []struct {
		a, b api.Val
		want bool
	}{
		{unset, unset, true}, {unset, number(0), false}, {unset, text(""), false}, {text(""), number(0), false},
		{number(1), number(1), true}, {number(1), number(2), false}, {number(1), number(-1), false}, {number(1), strnum("1", 1), false}, {number(inf), number(inf), true}, {number(inf), number(-inf), false}, {number(1), number(math.Nextafter(1, 2)), false},
		{text("a"), text("a"), true}, {text("a"), text("b"), false}, {text("a"), text("A"), false}, {text("a"), text("ab"), false}, {text("1"), strnum("1", 1), false}, {text("1"), text("1.0"), false},
		{strnum("1", 1), strnum("1", 1), true}, {strnum("1", 1), strnum("1.0", 1), false}, {strnum("1", 1), strnum(" 1", 1), false}, {strnum("1", 1), strnum("1", 2), false},
		{number(nan), number(nan), true}, {number(nan), number(math.Copysign(nan, -1)), true}, {number(nan), number(0), false}, {number(nan), number(1), false}, {number(nan), number(inf), false}, {number(nan), unset, false},
		{api.Val{N: nan}, api.Val{N: nan}, true}, {api.Val{N: nan}, number(nan), false}, {api.Val{N: 1}, unset, false}, {api.Val{S: "a"}, unset, false}, {api.Val{Kind: 4}, unset, false}, {api.Val{Kind: 4}, api.Val{Kind: 4}, true}, {api.Val{Kind: 4}, api.Val{Kind: 5}, false},
		{api.Val{Kind: 7, N: nan, S: "x"}, api.Val{Kind: 7, N: nan, S: "x"}, true}, {api.Val{Kind: 7, N: nan, S: "x"}, api.Val{Kind: 7, N: nan, S: "y"}, false}, {number(minus), number(0), true}, {number(minus), unset, false},
	} {
		if value.Same(c.a, c.b) != c.want || value.Same(c.b, c.a) != c.want {
			t.Errorf("13.3: Same(%s, %s): not %v both ways", short(c.a), short(c.b), c.want)
		}
	}
	for _, x := range noNumbers() {
		for _, y := range noNumbers() {
			if !value.Same(number(x), number(y)) {
				t.Errorf("13.3: Same(%x, %x): false", math.Float64bits(x), math.Float64bits(y))
			}
		}
	}
}
