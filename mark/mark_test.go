package mark_test

import (
	"math"
	"testing"

	"tailrace/api"
	"tailrace/mark"
)

const most = api.MaxWhole

// wholes are parts that a mark may have, rising.
func wholes() []float64 {
	return []float64{0, 1, 2, 7, 127, 128, 300, 1<<32 - 1, 1 << 32, most - 1, most}
}

// wrongs are parts that no mark has.
func wrongs() []float64 {
	return []float64{
		math.Copysign(0, -1),
		0.5, 1.5, 6.5, most - 0.5,
		math.SmallestNonzeroFloat64, math.Nextafter(1, 0), math.Nextafter(1, 2), math.Nextafter(most, 0),
		-1, -2, -0.5, -most, -most - 1, -math.SmallestNonzeroFloat64, -math.MaxFloat64,
		math.Nextafter(most, math.Inf(1)), most + 0.5, most + 1, most + 2, 2 * most, 1 << 53, 1 << 63, 1 << 64, 1<<64 + 1<<40, math.MaxFloat64,
		math.Inf(1), math.Inf(-1),
		math.NaN(), math.Copysign(math.NaN(), -1), math.Float64frombits(0x7ff0000000000001), math.Float64frombits(math.MaxUint64),
	}
}

// rights are marks, rising.
func rights() []complex128 {
	var l []complex128
	for _, a := range wholes() {
		for _, b := range wholes() {
			l = append(l, complex(a, b))
		}
	}
	return l
}

// others are no marks: a part that is wrong beside each that is whole, on both sides, and beside each that is wrong.
func others() []complex128 {
	var l []complex128
	for _, x := range wrongs() {
		for _, a := range wholes() {
			l = append(l, complex(x, a), complex(a, x))
		}
		for _, y := range wrongs() {
			l = append(l, complex(x, y))
		}
	}
	return l
}

// alike tells whether two numbers have the same bits, -0 and no numbers too.
func alike(x, y complex128) bool {
	same := func(a, b float64) bool { return math.Float64bits(a) == math.Float64bits(b) }
	return same(real(x), real(y)) && same(imag(x), imag(y))
}

// 4.1, and the chapter's examples.
func TestRight(t *testing.T) {
	for _, z := range []complex128{0, 1, 1i, 3 + 7i, 2 + 9i, most, most * 1i, most + most*1i} {
		if !mark.Right(z) {
			t.Errorf("Right(%v): false", z)
		}
	}
	for _, z := range []complex128{1.5, -1, 0.5i, -1i, 3 + 7.5i, 3 - 7i, most + 1, complex(0, most+1), most + 1 + (most+1)*1i} {
		if mark.Right(z) {
			t.Errorf("Right(%v): true", z)
		}
	}
}

// 4.1: parts of 0, of MaxWhole and just above it, and parts that are -0, broken, below 0, infinite or no number.
func TestRightOfEveryKindOfPart(t *testing.T) {
	for _, z := range rights() {
		if !mark.Right(z) {
			t.Errorf("Right(%v): false", z)
		}
	}
	for _, z := range others() {
		if mark.Right(z) {
			t.Errorf("Right(%v): true", z)
		}
	}
}

// 4.1, and the chapter's example.
func TestOf(t *testing.T) {
	if z, e := mark.Of(3, 7); z != 3+7i || e != api.OK {
		t.Errorf("Of(3, 7): %v, %d", z, e)
	}
	for _, a := range wholes() {
		for _, b := range wholes() {
			if z, e := mark.Of(uint64(a), uint64(b)); !alike(z, complex(a, b)) || e != api.OK || !mark.Right(z) {
				t.Errorf("Of(%v, %v): %v, %d", a, b, z, e)
			}
		}
	}
}

// 4.1 and R3: a number above MaxWhole on either side.
func TestOfNumbersAboveMaxWhole(t *testing.T) {
	for _, x := range []uint64{most + 1, most + 2, 2 * most, 1 << 53, 1<<53 + 1, 1 << 63, math.MaxUint64 - most, math.MaxUint64} {
		for _, a := range []uint64{0, 1, 7, most, most + 1, math.MaxUint64} {
			for _, c := range [][2]uint64{{x, a}, {a, x}} {
				if z, e := mark.Of(c[0], c[1]); !alike(z, 0) || e != api.ErrArg {
					t.Errorf("Of(%d, %d): %v, %d", c[0], c[1], z, e)
				}
			}
		}
	}
}

// 4.1, and the chapter's example.
func TestParts(t *testing.T) {
	if a, b := mark.Parts(3 + 7i); a != 3 || b != 7 {
		t.Errorf("Parts(3 + 7i): %d, %d", a, b)
	}
	for _, z := range rights() {
		if a, b := mark.Parts(z); float64(a) != real(z) || float64(b) != imag(z) {
			t.Errorf("Parts(%v): %d, %d", z, a, b)
		}
	}
}

// 4.1: of what is no mark both are 0, however whole the other part is.
func TestPartsOfOthers(t *testing.T) {
	for _, z := range others() {
		if a, b := mark.Parts(z); a != 0 || b != 0 {
			t.Errorf("Parts(%v): %d, %d", z, a, b)
		}
	}
}

// 4.1, and the chapter's example.
func TestNext(t *testing.T) {
	if z := mark.Next(3 + 7i); z != 3+8i {
		t.Errorf("Next(3 + 7i): %v", z)
	}
	for _, z := range rights() {
		want := complex(real(z), imag(z)+1)
		if imag(z) == most {
			want = z
		}
		if next := mark.Next(z); !alike(next, want) {
			t.Errorf("Next(%v): %v, want %v", z, next, want)
		}
	}
}

// 4.1: of the last mark, with any real part, and of what is no mark, it is that itself, to the bit.
func TestNextOfLastAndOfOthers(t *testing.T) {
	for _, z := range []complex128{most * 1i, 3 + most*1i, most + most*1i} {
		if next := mark.Next(z); !alike(next, z) {
			t.Errorf("Next(%v): %v", z, next)
		}
	}
	// One more would make a mark of these.
	minus := math.Copysign(0, -1)
	for _, z := range []complex128{3 - 1i, complex(3, minus), complex(minus, 3), complex(minus, minus), complex(minus, most)} {
		if next := mark.Next(z); !alike(next, z) {
			t.Errorf("Next(%v): %v", z, next)
		}
	}
	for _, z := range others() {
		if next := mark.Next(z); !alike(next, z) {
			t.Errorf("Next(%v): %v", z, next)
		}
	}
}
