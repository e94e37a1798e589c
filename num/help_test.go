package num_test

import (
	"math"
	"strconv"
	"testing"

	"tailrace/num"
)

const (
	greatest = math.MaxFloat64
	smallest = math.SmallestNonzeroFloat64
)

var (
	inf   = math.Inf(1)
	nan   = math.NaN()
	minus = math.Copysign(0, -1) // -0
)

// blanks are the six that are.
const blanks = "\t\n\v\f\r "

// alike tells whether two are the same number, -0 and 0 told apart, or both no number.
func alike(x, y float64) bool {
	return math.Float64bits(x) == math.Float64bits(y) || math.IsNaN(x) && math.IsNaN(y)
}

// noNumbers are no numbers, of either sign and with other bits, quiet and not.
func noNumbers() []float64 {
	return []float64{nan, math.Copysign(nan, -1), math.Float64frombits(0x7ff0000000000001), math.Float64frombits(0x7ff8000000000123), math.Float64frombits(1<<64 - 1)}
}

// sizes are sizes of finite numbers, rising.
func sizes() []float64 {
	return []float64{
		smallest, 2 * smallest, 0x1p-1022 - smallest, 0x1p-1022, 1e-300, 1e-9, 0.1, 0.25, math.Nextafter(0.5, 0), 0.5, math.Nextafter(0.5, 1), 0.9, math.Nextafter(1, 0),
		1, math.Nextafter(1, 2), 1.5, math.Nextafter(2, 0), 2, 2.5, 3, 3.7, 7, 10, 99.999, 255, 1 << 31, 1<<32 - 1, 1<<32 + 0.5,
		1<<52 - 0.5, 1 << 52, 1<<52 + 1, 1<<53 - 1, 1 << 53, 1<<53 + 2, 1e16 - 2, 1e16, 1e16 + 2, 1 << 63, 1 << 64, 1e20, 1e23, 1e100, 0x1p1023, math.Nextafter(greatest, 0), greatest,
	}
}

// finite are finite numbers of either sign, 0 and -0 among them.
func finite() []float64 {
	l := []float64{0, minus}
	for _, x := range sizes() {
		l = append(l, x, -x)
	}
	return l
}

// some are numbers of all kinds, and no numbers.
func some() []float64 {
	return append(append(finite(), inf, -inf), noNumbers()...)
}

// short tells a text, or of a long one its beginning and its length.
func short(s string) string {
	if len(s) <= 40 {
		return strconv.Quote(s)
	}
	return strconv.Quote(s[:30]) + " .. of " + strconv.Itoa(len(s)) + " bytes"
}

// reads wants this number at the beginning of a text, and this place behind it.
func reads(t *testing.T, s string, want float64, at int) {
	t.Helper()
	if x, place := num.Prefix(s); !alike(x, want) || place != at {
		t.Errorf("11.1: Prefix(%s): %v at %d, want %v at %d", short(s), x, place, want, at)
	}
}

// looks wants Looks to answer so of a text.
func looks(t *testing.T, s string, want bool) {
	t.Helper()
	if num.Looks(s) != want {
		t.Errorf("11.1: Looks(%s): %v", short(s), !want)
	}
}
