package rng_test

import (
	"math"
	"testing"

	"tailrace/rng"
)

// seeds wants this state of a number.
func seeds(t *testing.T, x float64, want uint64) {
	t.Helper()
	if s := rng.Seed(x); s != want {
		t.Errorf("14.1: Seed(%v) of the bits %#x: %#x, want %#x", x, math.Float64bits(x), s, want)
	}
}

// bits are a number's by the words of IEEE 754: a sign, 11 bits of the exponent, 52 of the fraction.
func bits(x float64) uint64 {
	var sign uint64
	if x < 0 {
		sign, x = 1<<63, -x
	}
	if x > greatest {
		return sign | 2047<<52
	}
	if x < 0x1p-1022 {
		return sign | uint64(x*0x1p537*0x1p537)
	}
	f, e := math.Frexp(x)
	return sign | uint64(e+1022)<<52 | uint64(f*0x1p53)&(1<<52-1)
}

// 14.1: the chapter's examples.
func TestSeedExamples(t *testing.T) {
	seeds(t, 0, 0)
	seeds(t, 1, 4607182418800017408)
}

// 14.1: the bits of numbers that are, of either sign.
func TestSeedIsTheBits(t *testing.T) {
	for _, c := range []struct {
		x    float64
		want uint64
	}{
		{1, 0x3ff0000000000000}, {2, 0x4000000000000000}, {-2, 0xc000000000000000}, {-1, 0xbff0000000000000}, {0.5, 0x3fe0000000000000}, {0.1, 0x3fb999999999999a}, {-0.1, 0xbfb999999999999a}, {3, 0x4008000000000000}, {1.5, 0x3ff8000000000000}, {42, 0x4045000000000000}, {1 << 53, 0x4340000000000000},
		{smallest, 1}, {-smallest, 1<<63 | 1}, {0x1p-1022 - smallest, 1<<52 - 1}, {0x1p-1022, 1 << 52}, {-0x1p-1022, 1<<63 | 1<<52},
		{greatest, 0x7fefffffffffffff}, {-greatest, 0xffefffffffffffff}, {inf, 0x7ff0000000000000}, {-inf, 0xfff0000000000000},
		{math.Nextafter(1, 0), 0x3fefffffffffffff}, {math.Nextafter(1, 2), 0x3ff0000000000001},
	} {
		seeds(t, c.x, c.want)
	}
}

// 14.1: of all numbers the bits, and none but 0 has those of 0.
func TestSeedOfManyNumbers(t *testing.T) {
	for _, n := range append(ends(), picked(1, 20000)...) {
		if t.Failed() {
			return
		}
		x := math.Float64frombits(n)
		if x == 0 || math.IsNaN(x) {
			seeds(t, x, 0)
			continue
		}
		seeds(t, x, n)
		seeds(t, x, bits(x))
		seeds(t, -x, n^1<<63)
	}
}

// 14.1: -0 is as 0, whatever made it.
func TestSeedOfMinusZero(t *testing.T) {
	one, zero := 1.0, 0.0
	for _, x := range []float64{0, minus, -zero, zero * -one, -one / inf, math.Float64frombits(1 << 63), -smallest / 2, math.Ceil(-0.5)} {
		seeds(t, x, 0)
	}
}

// 14.1: what is no number is as 0, of either sign and with any bits.
func TestSeedOfNoNumber(t *testing.T) {
	for _, x := range []float64{nan, -nan, math.Copysign(nan, -1), inf - inf, inf * 0, math.Sqrt(-1), math.Log(-1)} {
		seeds(t, x, 0)
	}
	for n := range 52 {
		for _, low := range []uint64{1 << n, 1<<(n+1) - 1, 1<<52 - 1<<n, 1<<51 | 1<<n} {
			for _, high := range []uint64{0x7ff << 52, 0xfff << 52} {
				seeds(t, math.Float64frombits(high|low), 0)
			}
		}
	}
}
