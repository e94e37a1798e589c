package value_test

import (
	"fmt"
	"math"
	"strings"
	"testing"

	"tailrace/api"
	"tailrace/pack"
	"tailrace/value"
)

const (
	conv     = "%.6g"
	greatest = math.MaxFloat64
	smallest = math.SmallestNonzeroFloat64
	blanks   = "\t\n\v\f\r "
)

var (
	unset api.Val
	inf   = math.Inf(1)
	nan   = math.NaN()
	minus = math.Copysign(0, -1) // -0
)

// Values of the three kinds that bear something, right or not.
func number(x float64) api.Val           { return api.Val{Kind: api.Num, N: x} }
func text(s string) api.Val              { return api.Val{Kind: api.Str, S: s} }
func strnum(s string, x float64) api.Val { return api.Val{Kind: api.StrNum, S: s, N: x} }

// many tells a text so many times.
func many(s string, n int) string { return strings.Repeat(s, n) }

// alike tells whether two are the same number, -0 and 0 told apart, or both no number.
func alike(x, y float64) bool {
	return math.Float64bits(x) == math.Float64bits(y) || math.IsNaN(x) && math.IsNaN(y)
}

// is tells whether two have the same fields, -0 and 0 told apart.
func is(v, w api.Val) bool { return v.Kind == w.Kind && v.S == w.S && alike(v.N, w.N) }

// short tells a value, of a long text its beginning and its length.
func short(v api.Val) string {
	s := fmt.Sprintf("%q", v.S)
	if len(v.S) > 40 {
		s = fmt.Sprintf("%q .. of %d bytes", v.S[:30], len(v.S))
	}
	return fmt.Sprintf("{%d %v %s}", v.Kind, v.N, s)
}

// noNumbers are no numbers, of either sign and with other bits, quiet and not.
func noNumbers() []float64 {
	return []float64{nan, math.Copysign(nan, -1), math.Float64frombits(0x7ff0000000000001), math.Float64frombits(0x7ff8000000000123), math.Float64frombits(1<<64 - 1)}
}

// floats are numbers of all kinds, and no numbers; -0 is not among them.
func floats() []float64 {
	l := append([]float64{0, inf, -inf}, noNumbers()...)
	for _, x := range []float64{smallest, 0x1p-1022, 1e-200, 0.1, 0.25, 0.5, math.Nextafter(1, 0), 1, 1.5, 2, 3, 7, 10, 99.999, 255, 256, 1 << 31, 1e15 + 0.5, 1e16 - 2, 1e16, 1 << 53, 1 << 63, 1e20, 1e100, 1e200, greatest} {
		l = append(l, x, -x)
	}
	return l
}

// strs are texts; some look like numbers.
func strs() []string {
	return []string{
		"", "a", "B", "ab", "10", "9", "10x", " 10 ", "-3", "+.5e1", "0", "0.0", "-0", "00", "1e999", "-1e999", "e1", ".", "+", "-", "  ", "\n", "0x1A", "inf", "nan", "-nan",
		"\x00", "\x7f", "\x80", "\xff", "\xff\xfe", "\u00e9", "a\x00b", many("a", api.MaxText-1), many("a", api.MaxText), many("7", api.MaxText), many(" ", api.MaxText), many("\xff", api.MaxText),
	}
}

// strnums are texts that look like numbers, with their numbers.
func strnums() []api.Val {
	return []api.Val{
		strnum("0", 0), strnum("-0", 0), strnum("+0.0", 0), strnum("0e5", 0), strnum("1e-999", 0), strnum("-1e-999", 0), strnum("1", 1), strnum(" 1", 1), strnum("1\n", 1), strnum("\t\v\f\r 1.0 \n", 1),
		strnum("10", 10), strnum(" 10 ", 10), strnum("1e1", 10), strnum("-7.25", -7.25), strnum(".5", 0.5), strnum("5.", 5), strnum("+.5E+1", 5), strnum("1e999", inf), strnum("-1e999", -inf),
		strnum("9007199254740993", 1<<53), strnum(many("0", api.MaxText-1)+"9", 9), strnum(many(" ", api.MaxText-1)+"7", 7), strnum("8"+many(" ", api.MaxText-1), 8), strnum(many("7", 250), 7.0/9*1e250),
	}
}

// rights are values.
func rights() []api.Val {
	l := append([]api.Val{unset}, strnums()...)
	for _, x := range floats() {
		l = append(l, number(x))
	}
	for _, s := range strs() {
		l = append(l, text(s))
	}
	return l
}

// wrongs are none, in one field alone.
func wrongs() []api.Val {
	long := many("7", api.MaxText+1)
	l := []api.Val{
		{N: 1}, {N: -1}, {N: smallest}, {N: nan}, {N: inf}, {N: minus}, {S: "a"}, {S: "1"}, {S: " "}, {S: "\x00"}, {S: long},
		number(minus), {Kind: api.Num, S: "a"}, {Kind: api.Num, N: 1, S: "1"}, {Kind: api.Num, N: 5, S: "x"}, {Kind: api.Num, N: nan, S: "nan"}, {Kind: api.Num, S: long},
		{Kind: api.Str, N: 1, S: "1"}, {Kind: api.Str, N: 5, S: "x"}, {Kind: api.Str, N: nan}, {Kind: api.Str, N: minus}, {Kind: api.Str, N: smallest, S: "a"}, {Kind: api.Str, N: -inf, S: "a"}, text(long), text(long + long),
		strnum("", 0), strnum("x", 0), strnum("10x", 10), strnum(" ", 0), strnum("-", 0), strnum("1 1", 1), strnum("0x1", 0), strnum("nan", nan), strnum("inf", inf),
		strnum("10", 11), strnum("10", 9), strnum("10", 0), strnum("10", -10), strnum("10", math.Nextafter(10, 11)), strnum("10", nan), strnum("10", inf), strnum("0", 1), strnum("0", nan), strnum("0", minus), strnum("-0", minus), strnum("-1e-999", minus), strnum("1e999", greatest), strnum("1e999", -inf), strnum("1e999", nan),
		strnum(long, 7.0/9*1e257), strnum(many("0", api.MaxText)+"7", 7), strnum(many(" ", api.MaxText)+"7", 7), strnum("7"+many(" ", api.MaxText), 7),
	}
	for _, kind := range []int{-1, 4, 5, 255, 256, 257, 258, 259, -255, math.MaxInt, math.MinInt} {
		l = append(l, api.Val{Kind: kind}, api.Val{Kind: kind, N: 1}, api.Val{Kind: kind, S: "a"}, api.Val{Kind: kind, N: 1, S: "1"})
	}
	return l
}

// laid tells the bytes of values, one behind the other.
func laid(l ...api.Val) []byte {
	w := pack.NewWriter()
	for _, v := range l {
		value.Lay(w, v)
	}
	return w.Bytes()
}

// made wants a call to have made this value, and that it is right.
func made(t *testing.T, promise, call string, v, want api.Val) {
	t.Helper()
	if !is(v, want) || !value.Right(v) {
		t.Errorf("%s: %s: %s, want %s", promise, call, short(v), short(want))
	}
}
