package value_test

import (
	"math"
	"testing"

	"tailrace/api"
	"tailrace/value"
)

// reckons wants this number of an operation.
func reckons(t *testing.T, op string, a, b api.Val, want float64) {
	t.Helper()
	if v, e := value.Arith(op, a, b); !is(v, number(want)) || e != api.OK || !value.Right(v) {
		t.Errorf("13.3: Arith(%s, %s, %s): %s %d, want %v", op, short(a), short(b), short(v), e, want)
	}
}

// stops wants FaultZero, and no value.
func stops(t *testing.T, op string, a, b api.Val) {
	t.Helper()
	if v, e := value.Arith(op, a, b); !is(v, unset) || e != api.FaultZero {
		t.Errorf("13.3: Arith(%s, %s, %s): %s %d, want FaultZero", op, short(a), short(b), short(v), e)
	}
}

// 13.3: each op, with both signs, infinities, and what is no number.
func TestArith(t *testing.T) {
	for op, l := range map[string][][3]float64{
		"+": {{1, 2, 3}, {-1, -2, -3}, {1, -2, -1}, {-1, 2, 1}, {0, 0, 0}, {0, 5, 5}, {5, 0, 5}, {0.1, 0.2, 0.30000000000000004}, {1e16, 1, 1e16}, {1 << 53, 1, 1 << 53}, {greatest, greatest, inf}, {-greatest, -greatest, -inf}, {inf, 1, inf}, {1, -inf, -inf}, {inf, inf, inf}, {inf, -inf, nan}, {nan, 1, nan}, {1, nan, nan}, {smallest, smallest, 2 * smallest}},
		"-": {{1, 2, -1}, {-1, -2, 1}, {1, -2, 3}, {-1, 2, -3}, {0, 0, 0}, {0, 5, -5}, {5, 0, 5}, {0, -5, 5}, {0.3, 0.1, 0.19999999999999998}, {-greatest, greatest, -inf}, {inf, 1, inf}, {1, inf, -inf}, {inf, inf, nan}, {-inf, -inf, nan}, {inf, -inf, inf}, {nan, 1, nan}, {1, nan, nan}},
		"*": {{3, 2, 6}, {-3, -2, 6}, {3, -2, -6}, {-3, 2, -6}, {0, 0, 0}, {0, 5, 0}, {5, 0, 0}, {0.1, 3, 0.30000000000000004}, {1e200, 1e200, inf}, {-1e200, 1e200, -inf}, {1e-200, 1e-200, 0}, {inf, -2, -inf}, {-inf, -inf, inf}, {inf, 0, nan}, {0, -inf, nan}, {nan, 0, nan}, {2, nan, nan}, {smallest, 0.5, 0}, {greatest, 0.5, greatest / 2}},
		"/": {{6, 2, 3}, {-6, -2, 3}, {6, -2, -3}, {-6, 2, -3}, {0, 5, 0}, {1, 4, 0.25}, {1, 3, 1.0 / 3}, {1, smallest, inf}, {-1, smallest, -inf}, {1e-200, 1e200, 0}, {inf, 2, inf}, {inf, -2, -inf}, {2, inf, 0}, {inf, inf, nan}, {nan, 1, nan}, {1, nan, nan}, {nan, nan, nan}},
		"%": {{7, 3, 1}, {-7, -3, -1}, {7, -3, 1}, {-7, 3, -1}, {0, 5, 0}, {5.5, 2, 1.5}, {-5.5, 2, -1.5}, {6, 3, 0}, {2, 10, 2}, {1e20, 3, 1}, {5, inf, 5}, {-5, -inf, -5}, {inf, 5, nan}, {inf, inf, nan}, {nan, 1, nan}, {1, nan, nan}, {0.3, 0.1, 0.09999999999999998}},
		"^": {{2, 10, 1024}, {-2, 3, -8}, {2, -2, 0.25}, {-2, -3, -0.125}, {0, 0, 1}, {0, 5, 0}, {5, 0, 1}, {0, -1, inf}, {nan, 0, 1}, {1, nan, 1}, {2, nan, nan}, {nan, 1, nan}, {-8, 0.5, nan}, {9, 0.5, 3}, {10, 400, inf}, {-10, 401, -inf}, {10, -400, 0}, {inf, 2, inf}, {-inf, 3, -inf}, {inf, -1, 0}, {0.5, inf, 0}, {2, 0.5, math.Sqrt2}},
	} {
		for _, c := range l {
			reckons(t, op, number(c[0]), number(c[1]), c[2])
		}
	}
}

// 13.3: no answer is -0.
func TestArithIsNeverMinusZero(t *testing.T) {
	for op, l := range map[string][][2]float64{
		"*": {{0, -1}, {-1, 0}, {-1e-200, 1e-200}, {1e-200, -1e-200}, {-smallest, 0.5}},
		"/": {{0, -5}, {0, -inf}, {-1, inf}, {1, -inf}, {-1e-200, 1e200}, {-smallest, 2}},
		"%": {{-7, 7}, {-6, 3}, {-6, -3}, {-1, smallest}, {-greatest, 2}},
		"^": {{-10, -401}, {-inf, -3}, {-smallest, 3}, {-2, -1075}},
		"+": {{0, 0}, {5, -5}, {-5, 5}, {-smallest, smallest}},
		"-": {{0, 0}, {5, 5}, {-5, -5}, {-smallest, -smallest}},
	} {
		for _, c := range l {
			reckons(t, op, number(c[0]), number(c[1]), 0)
		}
	}
	for _, x := range floats() {
		for _, y := range floats() {
			for _, op := range []string{"+", "-", "*", "/", "%", "^"} {
				if v, _ := value.Arith(op, number(x), number(y)); v.N == 0 && math.Signbit(v.N) {
					t.Errorf("13.3: Arith(%s, %v, %v): -0", op, x, y)
				}
			}
		}
	}
}

// 13.3: a quotient or a rest by 0, whatever is 0 there, and whatever stands ahead of it.
func TestArithByZero(t *testing.T) {
	zeros := []api.Val{unset, number(0), text(""), text("a"), text("0"), text("-0"), text(" 0.0x"), text("1e-999"), strnum("0", 0), strnum("-0", 0), strnum("1e-999", 0)}
	for _, op := range []string{"/", "%"} {
		for _, zero := range zeros {
			for _, v := range rights() {
				stops(t, op, v, zero)
			}
		}
		for _, y := range []float64{smallest, -smallest, inf, -inf, nan, 1} {
			if v, e := value.Arith(op, number(0), number(y)); e != api.OK || v.Kind != api.Num {
				t.Errorf("13.3: Arith(%s, 0, %v): %s %d", op, y, short(v), e)
			}
		}
	}
	for _, zero := range zeros {
		reckons(t, "+", number(3), zero, 3)
		reckons(t, "-", number(3), zero, 3)
		reckons(t, "*", number(3), zero, 0)
		reckons(t, "^", number(3), zero, 1)
		reckons(t, "+", zero, number(3), 3)
		reckons(t, "-", zero, number(3), -3)
		reckons(t, "*", zero, number(-3), 0)
		reckons(t, "/", zero, number(-3), 0)
		reckons(t, "%", zero, number(-3), 0)
		reckons(t, "^", zero, number(3), 0)
	}
}

// 13.3: numbers of values of each kind.
func TestArithOfEachKind(t *testing.T) {
	reckons(t, "+", text("2x"), strnum(" 3 ", 3), 5)
	reckons(t, "-", unset, strnum("5", 5), -5)
	reckons(t, "*", text("abc"), number(7), 0)
	reckons(t, "/", strnum("1e1", 10), text("4 apples"), 2.5)
	reckons(t, "%", text("-7"), text("3"), -1)
	reckons(t, "^", strnum("2", 2), text(" 3."), 8)
	reckons(t, "+", strnum("1e999", inf), text("-1e999"), nan)
	for _, op := range []string{"+", "-", "*", "/", "%", "^"} {
		for _, v := range rights() {
			for _, w := range rights() {
				x, e := value.Arith(op, v, w)
				y, d := value.Arith(op, number(value.ToNum(v)), number(value.ToNum(w)))
				if !is(x, y) || e != d {
					t.Errorf("13.3: Arith(%s, %s, %s): %s %d, of their numbers %s %d", op, short(v), short(w), short(x), e, short(y), d)
				}
			}
		}
	}
}

// 13.3: ops that there are not.
func TestArithOfNoOp(t *testing.T) {
	ops := []string{"", "**", "++", "--", "+=", "/=", "%=", "^=", "//", "x", " ", " +", "+ ", "/ ", "add", "=", "==", "<", "!", "&&", "+-", "\x00", "+\x00", "\xff", many("+", 1<<16)}
	for b := range 256 {
		if b != '+' && b != '-' && b != '*' && b != '/' && b != '%' && b != '^' {
			ops = append(ops, string([]byte{byte(b)}))
		}
	}
	for _, op := range ops {
		for _, v := range []api.Val{unset, number(1), number(0), number(nan), text("3x"), strnum("7", 7)} {
			for _, w := range []api.Val{unset, number(2), number(0), number(inf), text(""), strnum("0", 0)} {
				if x, e := value.Arith(op, v, w); !is(x, unset) || e != api.OK {
					t.Errorf("13.3: Arith(%.20q, %s, %s): %s %d", op, short(v), short(w), short(x), e)
				}
			}
		}
	}
}
