package mark_test

import (
	"bytes"
	"math"
	"math/rand"
	"testing"

	"tailrace/api"
	"tailrace/mark"
	"tailrace/pack"
)

// laid tells the bytes of marks, one behind the other.
func laid(l ...complex128) []byte {
	w := pack.NewWriter()
	for _, z := range l {
		mark.Lay(w, z)
	}
	return w.Bytes()
}

// nums tells the bytes of numbers, one behind the other.
func nums(l ...uint64) []byte {
	w := pack.NewWriter()
	for _, n := range l {
		w.Num(n)
	}
	return w.Bytes()
}

// 4.2: the real part's bytes, and the imaginary one's.
func TestLay(t *testing.T) {
	for _, c := range []struct {
		z    complex128
		want string
	}{
		{0, "\x00\x00"},
		{3 + 7i, "\x03\x07"},
		{7 + 3i, "\x07\x03"},
		{300 + 1i, "\xac\x02\x01"},
		{1 + 300i, "\x01\xac\x02"},
		{127 + 128i, "\x7f\x80\x01"},
		{most, "\x80\x80\x80\x80\x80\x20\x00"},
		{(most - 1) * 1i, "\x00\xff\xff\xff\xff\xff\x1f"},
	} {
		if b := laid(c.z); string(b) != c.want {
			t.Errorf("%v: % x, want % x", c.z, b, c.want)
		}
	}
	for _, z := range rights() {
		if b := laid(z); !bytes.Equal(b, nums(uint64(real(z)), uint64(imag(z)))) {
			t.Errorf("%v: % x", z, b)
		}
	}
}

// 4.2: it is laid behind what is there.
func TestLayBehindOthers(t *testing.T) {
	w := pack.NewWriter()
	w.Text("ab")
	mark.Lay(w, 3+7i)
	mark.Lay(w, 300)
	w.Byte(9)
	if b := w.Bytes(); string(b) != "\x02ab\x03\x07\xac\x02\x00\x09" {
		t.Errorf("% x", b)
	}
}

// 4.2: what is no mark is laid as Parts tells it.
func TestLayOfOthers(t *testing.T) {
	for _, z := range others() {
		if b := laid(z); string(b) != "\x00\x00" {
			t.Errorf("%v: % x", z, b)
		}
	}
}

// 4.3: what is laid is read as it was, and nothing is left.
func TestLaidIsRead(t *testing.T) {
	for _, z := range rights() {
		r := pack.NewReader(laid(z))
		if x := mark.Read(r); !alike(x, z) || r.End() != api.OK {
			t.Errorf("%v: %v, %d", z, x, r.End())
		}
	}
	r := pack.NewReader(laid(rights()...))
	for _, z := range rights() {
		if x := mark.Read(r); !alike(x, z) {
			t.Errorf("in a row: %v: %v", z, x)
		}
	}
	if e := r.End(); e != api.OK {
		t.Errorf("in a row: %d", e)
	}
}

// 4.3: picked marks.
func TestPickedOnesAreRead(t *testing.T) {
	pick := rand.New(rand.NewSource(2))
	for range 3000 {
		a := uint64(pick.Int63n(most+1)) >> pick.Intn(41)
		b := uint64(pick.Int63n(most+1)) >> pick.Intn(41)
		z, e := mark.Of(a, b)
		if e != api.OK {
			t.Fatalf("Of(%d, %d): %d", a, b, e)
		}
		r := pack.NewReader(laid(z))
		x := mark.Read(r)
		if c, d := mark.Parts(x); x != z || c != a || d != b || r.End() != api.OK {
			t.Errorf("%d and %d: %d and %d, %d", a, b, c, d, r.End())
		}
	}
}

// 4.2: two numbers are read, and no more: what is behind them is left.
func TestReadLeavesWhatIsBehind(t *testing.T) {
	r := pack.NewReader([]byte("\x09\x03\x07\x02ab"))
	n, z, s := r.Num(9), mark.Read(r), r.Text(2)
	if n != 9 || z != 3+7i || s != "ab" || r.End() != api.OK {
		t.Errorf("%d, %v, %q, %d", n, z, s, r.End())
	}
	r = pack.NewReader([]byte("\x03\x07\x00"))
	if z := mark.Read(r); z != 3+7i || r.End() != api.ErrForm {
		t.Errorf("%v, %d", z, r.End())
	}
}

// 4.2: bytes that are cut off: each number that is not whole is answered as 0.
func TestReadCutOff(t *testing.T) {
	for _, z := range rights() {
		b := laid(z)
		ahead := len(nums(uint64(real(z))))
		for k := range b {
			want := complex128(0)
			if k >= ahead {
				want = complex(real(z), 0)
			}
			r := pack.NewReader(b[:k])
			if x := mark.Read(r); !alike(x, want) || r.End() != api.ErrShort {
				t.Errorf("%v, cut at %d: %v, %d", z, k, x, r.End())
			}
		}
	}
}

// 4.2: numbers above MaxWhole, on either side; behind the first one that is wrong nothing is read.
func TestReadNumbersAboveMaxWhole(t *testing.T) {
	for _, n := range []uint64{most + 1, most + 2, 2 * most, 1 << 53, 1<<53 + 1, 1 << 63, math.MaxUint64} {
		for _, a := range []uint64{0, 5, most} {
			r := pack.NewReader(nums(n, a))
			if x := mark.Read(r); !alike(x, 0) || r.End() != api.ErrLong {
				t.Errorf("%d and %d: %v, %d", n, a, x, r.End())
			}
			r = pack.NewReader(nums(a, n))
			if x := mark.Read(r); !alike(x, complex(float64(a), 0)) || r.End() != api.ErrLong {
				t.Errorf("%d and %d: %v, %d", a, n, x, r.End())
			}
		}
	}
}

// 4.2: what is wrong first is kept.
func TestReadWrong(t *testing.T) {
	nine := "\x80\x80\x80\x80\x80\x80\x80\x80\x80"
	for _, c := range []struct {
		given string
		want  complex128
		e     api.Errno
	}{
		{"", 0, api.ErrShort},
		{"\x80\x00\x07", 0, api.ErrForm},
		{"\x03\x87\x00", 3, api.ErrForm},
		{nine + "\x02\x07", 0, api.ErrForm},
		{"\x03" + nine + "\x02", 3, api.ErrForm},
		{"\x80\x00" + nine + "\x01", 0, api.ErrForm},
		{nine + "\x01\x80\x00", 0, api.ErrLong},
		{nine + "\x01", 0, api.ErrLong},
		{"\x03" + nine, 3, api.ErrShort},
		{string(nums(most+1)) + "\x80", 0, api.ErrLong},
	} {
		r := pack.NewReader([]byte(c.given))
		if x := mark.Read(r); !alike(x, c.want) || r.End() != c.e {
			t.Errorf("of %q: %v, %d, want %v, %d", c.given, x, r.End(), c.want, c.e)
		}
	}
}

// 4.2: of a Reader that found something wrong before nothing is read any more, however whole what is left is.
func TestReadBehindAFault(t *testing.T) {
	r := pack.NewReader([]byte("\x0a\x03\x07"))
	r.Byte(9)
	if x := mark.Read(r); !alike(x, 0) || r.End() != api.ErrLong {
		t.Errorf("%v, %d", x, r.End())
	}
	r = pack.NewReader(laid(3+7i, 5)[:3])
	x, y, z := mark.Read(r), mark.Read(r), mark.Read(r)
	if x != 3+7i || y != 5 || !alike(z, 0) || r.End() != api.ErrShort {
		t.Errorf("%v, %v, %v, %d", x, y, z, r.End())
	}
}

// R1: nothing is laid to none, nor read of none, and neither panics.
func TestNilObjects(t *testing.T) {
	mark.Lay(nil, 3+7i)
	mark.Lay(nil, complex(math.NaN(), -1))
	if z := mark.Read(nil); !alike(z, 0) {
		t.Errorf("Read(nil): %v", z)
	}
}
