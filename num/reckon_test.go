package num_test

import (
	"math"
	"math/big"
	"testing"

	"tailrace/num"
)

// 11.2: less, equal, greater.
func TestLess(t *testing.T) {
	for _, c := range []struct {
		a, b float64
		want int
	}{
		{1, 2, -1}, {2, 1, 1}, {2, 2, 0}, {-1, 1, -1}, {-1, -2, 1}, {0.1, 0.1, 0},
		{0, 0, 0}, {minus, 0, 0}, {0, minus, 0}, {minus, minus, 0}, {0, smallest, -1}, {minus, -smallest, 1}, {smallest, minus, 1},
		{1, math.Nextafter(1, 2), -1}, {math.Nextafter(1, 2), 1, 1}, {greatest, inf, -1}, {inf, greatest, 1},
		{inf, inf, 0}, {-inf, -inf, 0}, {-inf, inf, -1}, {inf, -inf, 1}, {-inf, -greatest, -1}, {-inf, 0, -1}, {0, inf, -1},
	} {
		if n := num.Less(c.a, c.b); n != c.want {
			t.Errorf("11.2: Less(%v, %v): %d, want %d", c.a, c.b, n, c.want)
		}
	}
}

// 11.2: where one is no number, or both are, 1.
func TestLessOfNoNumbers(t *testing.T) {
	for _, x := range noNumbers() {
		for _, y := range some() {
			if n, m := num.Less(x, y), num.Less(y, x); n != 1 || m != 1 {
				t.Errorf("11.2: Less(%v, %v): %d, and the other way round %d", x, y, n, m)
			}
		}
	}
}

// 11.2: all pairs, as they stand in a row that rises.
func TestLessInARow(t *testing.T) {
	row := []float64{0}
	for _, x := range append(sizes(), inf) {
		row = append([]float64{-x}, append(row, x)...)
	}
	for i, a := range row {
		for j, b := range row {
			want := 0
			if i < j {
				want = -1
			} else if i > j {
				want = 1
			}
			if n := num.Less(a, b); n != want {
				t.Errorf("11.2: Less(%v, %v): %d, want %d", a, b, n, want)
			}
		}
	}
}

// 11.2: powers: ordinary ones, zeros, ones, negative numbers, infinities, what is no number.
func TestPower(t *testing.T) {
	for _, c := range []struct{ a, b, want float64 }{
		{2, 10, 1024}, {7, 3, 343}, {-7, 3, -343}, {-4, 2, 16}, {2, -2, 0.25}, {9, 0.5, 3}, {10, 15, 1e15}, {2, 0.5, math.Sqrt2},
		{0, 0, 1}, {5, 0, 1}, {nan, 0, 1}, {inf, 0, 1}, {-inf, minus, 1}, {1, nan, 1}, {1, inf, 1}, {-1, inf, 1}, {-1, -inf, 1}, {5, 1, 5}, {-5, 1, -5}, {1, 1000, 1}, {-1, 1001, -1},
		{0, 3, 0}, {0, 2, 0}, {0, 0.5, 0}, {0, -1, inf}, {0, -2, inf}, {0, inf, 0}, {0, -inf, inf},
		{-8, 0.5, nan}, {-8, 1.0 / 3, nan}, {-0.5, -1, -2}, {-2, -2, 0.25},
		{5, inf, inf}, {0.5, inf, 0}, {5, -inf, 0}, {0.5, -inf, inf}, {-5, inf, inf}, {inf, 2, inf}, {inf, -2, 0}, {-inf, 3, -inf}, {-inf, 2, inf}, {inf, 0.5, inf},
		{nan, 1, nan}, {2, nan, nan}, {nan, nan, nan}, {0, nan, nan}, {-1, nan, nan},
		{10, 400, inf}, {-10, 401, -inf}, {10, -400, 0}, {2, -1074, smallest}, {2, 1024, inf},
	} {
		if x := num.Power(c.a, c.b); !alike(x, c.want) {
			t.Errorf("11.2: Power(%v, %v): %v, want %v", c.a, c.b, x, c.want)
		}
	}
}

// 11.2: what would be -0 is 0.
func TestPowerIsNeverMinusZero(t *testing.T) {
	for _, c := range [][2]float64{{minus, 3}, {minus, 1}, {-inf, -3}, {-inf, -1}, {-10, -401}, {-2, -1075}, {-smallest, 3}, {-1e-200, 3}, {-greatest, -3}} {
		if x := num.Power(c[0], c[1]); !math.Signbit(math.Pow(c[0], c[1])) || !alike(x, 0) {
			t.Errorf("11.2: Power(%v, %v): %v", c[0], c[1], x)
		}
	}
}

// 11.2: rests: ordinary ones, of either sign, zeros, infinities, what is no number.
func TestRest(t *testing.T) {
	for _, c := range []struct{ a, b, want float64 }{
		{7, 3, 1}, {-7, 3, -1}, {7, -3, 1}, {-7, -3, -1}, {2, 10, 2}, {-2, 10, -2}, {6, 3, 0}, {1, 1, 0}, {5.5, 2, 1.5}, {-5.5, 2, -1.5}, {5, 0.75, 0.5}, {1, smallest, 0},
		{1e20, 3, 1}, {1e300, 7, 1}, {greatest, smallest, 0}, {smallest, greatest, smallest}, {1 << 53, 10, 2}, {0.3, 0.1, 0.09999999999999998},
		{0, 5, 0}, {0, -5, 0}, {7, 0, nan}, {7, minus, nan}, {0, 0, nan}, {-7, 0, nan}, {inf, 0, nan},
		{5, inf, 5}, {5, -inf, 5}, {-5, inf, -5}, {-5, -inf, -5}, {0, inf, 0}, {inf, 5, nan}, {-inf, 5, nan}, {inf, inf, nan},
		{nan, 1, nan}, {1, nan, nan}, {nan, nan, nan}, {nan, 0, nan}, {inf, nan, nan},
	} {
		if x := num.Rest(c.a, c.b); !alike(x, c.want) {
			t.Errorf("11.2: Rest(%v, %v): %v, want %v", c.a, c.b, x, c.want)
		}
	}
}

// 11.2: what would be -0 is 0.
func TestRestIsNeverMinusZero(t *testing.T) {
	for _, c := range [][2]float64{{-4, 2}, {-4, -2}, {-1, 1}, {-1, -1}, {minus, 5}, {minus, -5}, {minus, inf}, {minus, -inf}, {-6.5, 0.5}, {-greatest, 2}, {-1e20, 10}, {-smallest, smallest}} {
		if x := num.Rest(c[0], c[1]); !math.Signbit(math.Mod(c[0], c[1])) || !alike(x, 0) {
			t.Errorf("11.2: Rest(%v, %v): %v", c[0], c[1], x)
		}
	}
}

// 11.2 and R6: each pair is as package math has it, to the bit, but for -0, which is none of the answers.
func TestReckonAsMath(t *testing.T) {
	l := append(some(), picked(150)...)
	for _, a := range l {
		for _, b := range l {
			for name, of := range map[string][2]float64{"Power": {num.Power(a, b), math.Pow(a, b)}, "Rest": {num.Rest(a, b), math.Mod(a, b)}} {
				if want := of[1]; want == 0 && !alike(of[0], 0) || want != 0 && !alike(of[0], want) {
					t.Errorf("11.2: %s(%v, %v): %v, want %v", name, a, b, of[0], want)
				}
			}
		}
	}
}

// 11.2: a rest is exact, has the sign of a, and is smaller than b.
func TestRestExactly(t *testing.T) {
	l := []float64{}
	for _, x := range append(finite(), picked(60)...) {
		if x != 0 && x-x == 0 {
			l = append(l, x)
		}
	}
	for _, a := range l {
		for _, b := range l {
			x, y := new(big.Rat), new(big.Rat)
			x.SetFloat64(a)
			y.SetFloat64(b)
			times := new(big.Rat).Quo(x, y)
			whole := new(big.Int).Quo(times.Num(), times.Denom())
			x.Sub(x, y.Mul(y, new(big.Rat).SetInt(whole)))
			want, exact := x.Float64()
			if rest := num.Rest(a, b); !exact || !alike(rest, want) {
				t.Errorf("11.2: Rest(%v, %v): %v, want %v", a, b, rest, want)
			}
		}
	}
}
