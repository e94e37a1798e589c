package printf_test

import (
	"math"
	"strings"
	"testing"

	"tailrace/api"
	"tailrace/num"
	"tailrace/printf"
)

// wrong are formats that are faults, whatever they are given.
func wrong() []string {
	return []string{"%", "%q", "%5", "%5%", "%.", "%-", "%ld", "%201d", "%.201g", "a%", strings.Repeat("a", api.MaxText+1) + "%"}
}

// tells wants this text of a number by a format.
func tells(t *testing.T, x float64, f, want string) {
	t.Helper()
	if text, e := printf.Number(x, f); text != want || e != api.OK {
		t.Errorf("12.4: Number(%v, %s): %s %d, want %s", x, short(f), short(text), e, short(want))
	}
}

// stops wants this fault of a number by a format, and no text.
func stops(t *testing.T, x float64, f string, want api.Errno) {
	t.Helper()
	if text, e := printf.Number(x, f); text != "" || e != want {
		t.Errorf("12.4: Number(%v, %s): %s %d, want %d", x, short(f), short(text), e, want)
	}
}

// 12.4: whole numbers below 10^16 in size are their digits, whatever the format, a wrong one too.
func TestWholeOnes(t *testing.T) {
	formats := append(wrong(), "%.6g", "%d", "%s", "x", "", "%.2f", "%c", strings.Repeat("a", api.MaxText+1))
	for _, c := range []struct {
		x    float64
		want string
	}{
		{0, "0"}, {minus, "0"}, {1, "1"}, {-1, "-1"}, {3, "3"}, {100000, "100000"}, {1e6, "1000000"}, {-123456789, "-123456789"}, {1 << 31, "2147483648"}, {1 << 53, "9007199254740992"},
		{1e15, "1000000000000000"}, {1e16 - 2, "9999999999999998"}, {-1e16 + 2, "-9999999999999998"}, {inf, "inf"}, {-inf, "-inf"}, {nan, "nan"},
	} {
		for _, f := range formats {
			tells(t, c.x, f, c.want)
		}
	}
	for _, x := range noNumbers() {
		for _, f := range formats {
			tells(t, x, f, "nan")
		}
	}
}

// 12.4: from 10^16 on whole numbers are told by the format.
func TestGreatOnes(t *testing.T) {
	tells(t, 1e16, "%.6g", "1e+16")
	tells(t, -1e16, "%.6g", "-1e+16")
	tells(t, 1e16+2, "%.17g", "10000000000000002")
	tells(t, 1e16, "%d", "10000000000000000")
	tells(t, 1e16, "%s", "10000000000000000")
	tells(t, 1e16, "%.3f", "10000000000000000.000")
	tells(t, -1e16-2, "%s|%d", "-10000000000000002|0")
	tells(t, 1e16, "", "")
	tells(t, 1e300, "%.6g", "1e+300")
	tells(t, greatest, "%.17g", "1.7976931348623157e+308")
	tells(t, 1<<64, "%x", "18446744073709551616")
	tells(t, 1<<63, "%x", "8000000000000000")
	tells(t, 1e16, "%c", "\x00")
	stops(t, greatest, "%s", api.FaultText)
	stops(t, greatest, "%d", api.FaultText)
	stops(t, -greatest, "%f", api.FaultText)
	stops(t, 1e300, "%s", api.FaultText)
}

// 12.4: what is not whole is told by the format, as one argument: the number, with its digits as its text.
func TestBrokenOnes(t *testing.T) {
	tells(t, 0.1, "%.6g", "0.1")
	tells(t, -0.1, "%.6g", "-0.1")
	tells(t, 3.14159265, "%.6g", "3.14159")
	tells(t, 3.14159265, "%.2f", "3.14")
	tells(t, 1e-300, "%.6g", "1e-300")
	tells(t, smallest, "%.3e", "4.941e-324")
	tells(t, 123456.75, "%.6g", "123457")
	tells(t, 1<<52-0.5, "%.17g", "4503599627370495.5")
	tells(t, 3.7, "%d", "3")
	tells(t, -3.7, "%d", "-3")
	tells(t, 3.7, "%s", "3")
	tells(t, -3.7, "%s", "-3")
	tells(t, -0.5, "%s", "0")
	tells(t, 66.5, "%c", "B")
	tells(t, -66.5, "%c", "\x00")
	tells(t, 3.7, "%d %d%s", "3 0")
	tells(t, 3.7, "%*d", "  0")
	tells(t, 3.7, "%.*s|", "|")
	tells(t, 0.5, "x", "x")
	tells(t, 0.5, "", "")
	tells(t, 0.5, "%%", "%")
	tells(t, 0.5, "%08.3f", "0000.500")
	tells(t, 0.5, "%200.1f", blanks(197)+"0.5")
}

// 12.4: a format's fault is told of the numbers that it is asked for.
func TestFaultsOfFormats(t *testing.T) {
	for _, x := range []float64{0.1, -0.1, smallest, math.Nextafter(1, 2), 1e16, -1e16, 1e300, greatest} {
		for _, f := range wrong() {
			stops(t, x, f, api.FaultFormat)
		}
		stops(t, x, strings.Repeat("a", api.MaxText+1), api.FaultText)
		stops(t, x, strings.Repeat("%%", api.MaxText+1), api.FaultText)
		tells(t, x, strings.Repeat("a", api.MaxText), strings.Repeat("a", api.MaxText))
	}
	stops(t, 201.5, "%*d", api.FaultFormat)
	tells(t, 200.5, "%*d", blanks(199)+"0")
	stops(t, 1e16, "%.*d", api.FaultFormat)
	tells(t, -1e16, "%.*d", "0")
}

// 12.4: each number is its digits, or what Format makes of it.
func TestNumberIsFormat(t *testing.T) {
	for _, x := range some() {
		for _, f := range append(wrong(), "%.6g", "%.17g", "%d", "%s", "%c", "%x", "%f|%s", "%*d", "%%", "") {
			digits := num.Digits(x)
			want, e := printf.Format(f, printf.Arg{N: x, S: digits, IsNum: true})
			if math.IsNaN(x) || math.IsInf(x, 0) || math.Abs(x) < 1e16 && math.Floor(x) == x {
				want, e = digits, api.OK
			}
			if text, is := printf.Number(x, f); text != want || is != e {
				t.Errorf("12.4: Number(%v, %s): %s %d, want %s %d", x, short(f), short(text), is, short(want), e)
			}
		}
	}
}
