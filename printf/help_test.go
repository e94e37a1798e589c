package printf_test

import (
	"math"
	"strconv"
	"strings"
	"testing"

	"tailrace/api"
	"tailrace/printf"
)

const (
	greatest = math.MaxFloat64
	smallest = math.SmallestNonzeroFloat64
	letters  = "diuoxXfFeEgGcs"
)

var (
	inf   = math.Inf(1)
	nan   = math.NaN()
	minus = math.Copysign(0, -1) // -0
)

// n: a number as an argument; its text is none.
func n(x float64) printf.Arg { return printf.Arg{N: x, IsNum: true} }

// s: a text as an argument; its number is 0.
func s(x string) printf.Arg { return printf.Arg{S: x} }

// zeros tells so many of them.
func zeros(n int) string { return strings.Repeat("0", n) }

// blanks tells so many of them.
func blanks(n int) string { return strings.Repeat(" ", n) }

// noNumbers are no numbers, of either sign and with other bits, quiet and not.
func noNumbers() []float64 {
	return []float64{nan, math.Copysign(nan, -1), math.Float64frombits(0x7ff0000000000001), math.Float64frombits(1<<64 - 1)}
}

// sizes are sizes of finite numbers, rising.
func sizes() []float64 {
	l := []float64{smallest, 0x1p-1022, 1e-300, 1e-9, 9.9999e-5, 1e-4, 0.1, 0.25, math.Nextafter(0.5, 0), 0.5, 0.9, math.Nextafter(1, 0)}
	l = append(l, 1, math.Nextafter(1, 2), 1.5, 2, 2.5, 3.7, 7, 8, 9.5, 9.9999995, 10, 99.999, 255, 256, 999999.5, 1e6, 1<<31, 1<<32-1, 1<<32+0.5)
	for _, x := range []float64{1 << 53, 1e16, 1 << 63, 1 << 64} {
		l = append(l, math.Nextafter(x, 0), x, math.Nextafter(x, inf))
	}
	return append(l, 1e20, 1e23, 1e100, math.Nextafter(greatest, 0), greatest)
}

// some are numbers of all kinds, and no numbers.
func some() []float64 {
	l := append([]float64{0, minus, inf, -inf}, noNumbers()...)
	for _, x := range sizes() {
		l = append(l, x, -x)
	}
	return l
}

// short tells a text, or of a long one its beginning and its length.
func short(s string) string {
	if len(s) <= 60 {
		return strconv.Quote(s)
	}
	return strconv.Quote(s[:50]) + " .. of " + strconv.Itoa(len(s)) + " bytes"
}

// shortly tells arguments likewise.
func shortly(args []printf.Arg) string {
	var l []string
	for _, a := range args {
		l = append(l, strconv.FormatFloat(a.N, 'g', -1, 64)+" "+short(a.S)+" "+strconv.FormatBool(a.IsNum))
	}
	return strings.Join(l, ", ")
}

// gives wants this text of a format and its arguments.
func gives(t *testing.T, promise, f, want string, args ...printf.Arg) {
	t.Helper()
	if x, e := printf.Format(f, args...); x != want || e != api.OK {
		t.Errorf("%s: Format(%s; %s): %s %d, want %s", promise, short(f), shortly(args), short(x), e, short(want))
	}
}

// faults wants this fault of a format and its arguments, and no text.
func faults(t *testing.T, promise, f string, want api.Errno, args ...printf.Arg) {
	t.Helper()
	if x, e := printf.Format(f, args...); x != "" || e != want {
		t.Errorf("%s: Format(%s; %s): %s %d, want %d", promise, short(f), shortly(args), short(x), e, want)
	}
}
