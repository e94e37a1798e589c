package printf_test

import (
	"math"
	"strconv"
	"strings"
	"testing"

	"tailrace/api"
	"tailrace/printf"
)

// 12.2: whole numbers in their bases.
func TestWholeNumbers(t *testing.T) {
	for _, c := range []struct {
		x                 float64
		digits, oct, hexa string
	}{
		{0, "0", "0", "0"}, {minus, "0", "0", "0"}, {0.5, "0", "0", "0"}, {-0.5, "0", "0", "0"}, {smallest, "0", "0", "0"}, {-smallest, "0", "0", "0"}, {math.Nextafter(-1, 0), "0", "0", "0"},
		{1, "1", "1", "1"}, {1.9, "1", "1", "1"}, {7.99, "7", "7", "7"}, {8, "8", "10", "8"}, {10, "10", "12", "a"}, {15.5, "15", "17", "f"}, {255, "255", "377", "ff"}, {48879, "48879", "137357", "beef"},
		{math.Nextafter(2, 0), "1", "1", "1"}, {1 << 31, "2147483648", "20000000000", "80000000"}, {1<<32 - 1, "4294967295", "37777777777", "ffffffff"}, {1 << 32, "4294967296", "40000000000", "100000000"},
		{1<<53 - 1, "9007199254740991", "377777777777777777", "1fffffffffffff"}, {1 << 53, "9007199254740992", "400000000000000000", "20000000000000"}, {1<<53 + 2, "9007199254740994", "400000000000000002", "20000000000002"},
		{1<<63 - 1024, "9223372036854774784", "777777777777777776000", "7ffffffffffffc00"}, {1 << 63, "9223372036854775808", "1000000000000000000000", "8000000000000000"}, {1<<63 + 2048, "9223372036854777856", "1000000000000000004000", "8000000000000800"},
		{1<<64 - 2048, "18446744073709549568", "1777777777777777774000", "fffffffffffff800"},
		// What 2^64 - 1 is rounded to, and what is greater, is told as by u.
		{1<<64 - 1, "18446744073709551616", "", ""}, {1 << 64, "18446744073709551616", "", ""}, {1<<64 + 4096, "18446744073709555712", "", ""}, {1e20, "100000000000000000000", "", ""}, {1e23, "99999999999999991611392", "", ""},
		{-1, "-1", "", ""}, {-1.9, "-1", "", ""}, {-255, "-255", "", ""}, {-1 << 53, "-9007199254740992", "", ""}, {-1 << 63, "-9223372036854775808", "", ""}, {-1 << 64, "-18446744073709551616", "", ""},
		{inf, "inf", "", ""}, {-inf, "-inf", "", ""}, {nan, "nan", "", ""}, {math.Copysign(nan, -1), "nan", "", ""},
	} {
		oct, hexa, great := c.oct, c.hexa, strings.ToUpper(c.hexa)
		if oct == "" {
			oct, hexa, great = c.digits, c.digits, c.digits
		}
		for letter, want := range map[string]string{"d": c.digits, "i": c.digits, "u": c.digits, "o": oct, "x": hexa, "X": great} {
			gives(t, "12.2", "%"+letter, want, n(c.x))
			gives(t, "12.2", "<%"+letter+">", "<"+want+">", printf.Arg{N: c.x, S: "12x"})
		}
	}
	for _, letter := range strings.Split("diuoxX", "") {
		faults(t, "12.1", "%"+letter, api.FaultText, n(greatest))
		faults(t, "12.1", "%"+letter, api.FaultText, n(-greatest))
	}
}

// 12.2: noughts ahead of whole numbers up to the precision; the sign does not count, and what is not finite has none.
func TestPrecisionsOfWholeNumbers(t *testing.T) {
	for _, letter := range strings.Split("diuoxX", "") {
		gives(t, "12.2", "%.0"+letter, "0", n(0))
		gives(t, "12.2", "%."+letter, "0", n(minus))
		gives(t, "12.2", "%.1"+letter, "0", n(0.9))
		gives(t, "12.2", "%.3"+letter, "000", n(-0.9))
		gives(t, "12.2", "%.0"+letter, "7", n(7))
		gives(t, "12.2", "%.1"+letter, "7", n(7))
		gives(t, "12.2", "%.2"+letter, "07", n(7))
		gives(t, "12.2", "%.3"+letter, "007", n(7))
		gives(t, "12.2", "%.0"+letter, "-7", n(-7))
		gives(t, "12.2", "%.1"+letter, "-7", n(-7))
		gives(t, "12.2", "%.2"+letter, "-07", n(-7))
		gives(t, "12.2", "%.3"+letter, "-007", n(-7))
		gives(t, "12.2", "%.19"+letter, "18446744073709551616", n(1<<64))
		gives(t, "12.2", "%.20"+letter, "18446744073709551616", n(1<<64))
		gives(t, "12.2", "%.22"+letter, "0018446744073709551616", n(1<<64))
		gives(t, "12.2", "%.22"+letter, "-0018446744073709551616", n(-1<<64))
		gives(t, "12.2", "%.9"+letter+"|%.0"+letter, "inf|inf", n(inf), n(inf))
		gives(t, "12.2", "%.9"+letter+"|%.0"+letter, "-inf|-inf", n(-inf), n(-inf))
		gives(t, "12.2", "%.9"+letter+"|%.0"+letter, "nan|nan", n(nan), n(nan))
	}
	gives(t, "12.2", "%.2d %.3d %.4d %.5i %.6u", "255 255 0255 00255 000255", n(255), n(255), n(255), n(255), n(255))
	gives(t, "12.2", "%.1x %.2x %.3x %.4X %.2o %.3o %.4o", "ff ff 0ff 00FF 377 377 0377", n(255), n(255), n(255), n(255), n(255), n(255), n(255))
	gives(t, "12.2", "%.18x", "00fffffffffffff800", n(1<<64-2048))
}

// 12.2: which sign stands ahead, by letters, flags and numbers.
func TestSigns(t *testing.T) {
	bodies := map[float64][4]string{ // by d, by f, by e, by g
		5: {"5", "5.000000", "5.000000e+00", "5"}, 0: {"0", "0.000000", "0.000000e+00", "0"}, 0.5: {"0", "0.500000", "5.000000e-01", "0.5"}, inf: {"inf", "inf", "inf", "inf"},
	}
	check := func(flags, letter string, x float64, sign, body string) {
		if strings.Contains("EG", letter) && !math.IsInf(x, 0) {
			body = strings.ToUpper(body)
		}
		gives(t, "12.2", "%"+flags+letter, sign+body, n(x))
	}
	for flags, plus := range map[string]string{"": "", "+": "+", " ": " ", "+ ": "+", " +": "+", "-": "", "0": "", "-+": "+", "0 ": " "} {
		for x, body := range bodies {
			for i, row := range []string{"di", "fF", "eE", "gG"} {
				for _, letter := range strings.Split(row, "") {
					check(flags, letter, x, plus, body[i])
					switch {
					case x == 0:
						check(flags, letter, minus, plus, body[i])
					case x < 1 && i == 0:
						check(flags, letter, -x, plus, body[i])
					default:
						check(flags, letter, -x, "-", body[i])
					}
				}
			}
			for _, letter := range strings.Split("uoxX", "") {
				check(flags, letter, x, "", body[0])
				if x >= 1 {
					check(flags, letter, -x, "-", body[0])
				} else {
					check(flags, letter, -x, "", body[0])
				}
			}
		}
		for _, x := range noNumbers() {
			for _, letter := range strings.Split("difFeEgG", "") {
				gives(t, "12.2", "%"+flags+letter, plus+"nan", n(x))
			}
			gives(t, "12.2", "%"+flags+"u%"+flags+"o%"+flags+"x%"+flags+"X", "nannannannan", n(x), n(x), n(x), n(x))
		}
	}
	gives(t, "12.2", "%+.3d|% .3d|%+.3u|% .3x", "+007| 007|007|007", n(7), n(7), n(7), n(7))
}

// 12.2: the sign of a float is that of the number, whatever it is rounded to.
func TestSignsOfWhatIsRounded(t *testing.T) {
	gives(t, "12.2", "%.0f|%.0f|%.1f|%f", "-0|0|-0.0|-0.000000", n(-0.3), n(0.3), n(-0.01), n(-smallest))
	gives(t, "12.2", "%.0f|%f|%e|%g|%G", "0|0.000000|0.000000e+00|0|0", n(minus), n(minus), n(minus), n(minus), n(minus))
	gives(t, "12.2", "%+.0f|% .0f|%+f", "+0| 0|+0.000000", n(minus), n(minus), n(minus))
}

// 12.2: f and F.
func TestFixed(t *testing.T) {
	gives(t, "12.2", "%f %F", "1.500000 -1.500000", n(1.5), n(-1.5))
	gives(t, "12.2", "%f %f %f", "0.100000 1000000.000000 0.000001", n(0.1), n(1e6), n(0.0000005000001))
	gives(t, "12.2", "%.0f %.0f %.0f %.0f %.0f", "0 2 2 4 -2", n(0.5), n(1.5), n(2.5), n(3.5), n(-2.5))
	gives(t, "12.2", "%.1f %.1f %.2f %.3f", "0.2 0.3 2.67 1.000", n(0.25), n(0.35), n(2.675), n(0.9999))
	gives(t, "12.2", "%.0f %.0f %.0f", "9007199254740991 9007199254740992 9007199254740994", n(1<<53-1), n(1<<53), n(1<<53+2))
	gives(t, "12.2", "%.0F %.0f %.0f", "9223372036854775808 18446744073709549568 18446744073709551616", n(1<<63), n(1<<64-2048), n(1<<64))
	gives(t, "12.2", "%.1f", "99999999999999991611392.0", n(1e23))
	tenth := "0.1000000000000000055511151231257827021181583404541015625"
	gives(t, "12.2", "%.200f", tenth+zeros(202-len(tenth)), n(0.1))
	gives(t, "12.2", "%.55f %.20F", tenth+" 0.10000000000000000555", n(0.1), n(0.1))
}

// 12.2: e and E.
func TestExponents(t *testing.T) {
	gives(t, "12.2", "%e %E", "1.234568e+04 -1.234568E+04", n(12345.678), n(-12345.678))
	gives(t, "12.2", "%e %e %E", "0.000000e+00 1.000000e-01 1.000000E-01", n(0), n(0.1), n(0.1))
	gives(t, "12.2", "%.0e %.0e %.0E %.1e", "2e+00 2e+00 4E+00 1.0e+01", n(1.5), n(2.5), n(3.5), n(9.96))
	gives(t, "12.2", "%e %e %e %.2e", "1.000000e+09 1.000000e+10 1.000000e+99 1.00e+100", n(1e9), n(1e10), n(1e99), n(1e100))
	gives(t, "12.2", "%e %E %.0e", "1.797693e+308 -1.797693E+308 2e+308", n(greatest), n(-greatest), n(greatest))
	gives(t, "12.2", "%e %.3e %.20e", "4.940656e-324 4.941e-324 4.94065645841246544177e-324", n(smallest), n(smallest), n(smallest))
	gives(t, "12.2", "%.17e %.16e", "9.00719925474099200e+15 1.8446744073709550e+19", n(1<<53), n(1<<64-2048))
}

// 12.2: g and G.
func TestShorter(t *testing.T) {
	gives(t, "12.2", "%g %g %g %g", "0 1 0.1 -0.5", n(0), n(1), n(0.1), n(-0.5))
	gives(t, "12.2", "%g %g %g %g", "0.0001 1e-05 9.9999e-05 0.0001", n(0.0001), n(0.00001), n(9.9999e-5), n(9.99999999e-5))
	gives(t, "12.2", "%g %g %g %g %g", "100000 999999 1e+06 1e+06 1.23457e+08", n(100000), n(999999), n(999999.5), n(1000000), n(123456789))
	gives(t, "12.2", "%G %G %G", "1E+20 1E-09 1.5", n(1e20), n(1e-9), n(1.5))
	gives(t, "12.2", "%.0g %.1g %.2g %.3g %.4g", "1e+02 1e+02 1.2e+02 123 123.5", n(123.456), n(123.456), n(123.456), n(123.456), n(123.456))
	gives(t, "12.2", "%.0g %.0g %.1G %.g", "2e+01 2 0.1 2e+01", n(15), n(2.5), n(0.15), n(25))
	gives(t, "12.2", "%g %G %.17g", "1.79769e+308 -1.79769E+308 1.7976931348623157e+308", n(greatest), n(-greatest), n(greatest))
	gives(t, "12.2", "%.17g %.17g %.20g", "9007199254740992 1.8446744073709552e+19 18446744073709551616", n(1<<53), n(1<<64), n(1<<64))
	gives(t, "12.2", "%.200g", "0.1000000000000000055511151231257827021181583404541015625", n(0.1))
}

// 12.2: of a float's letters, each number, without a precision and with some, is as strconv tells it.
func TestFloatsAsStrconv(t *testing.T) {
	for letter, as := range map[string]byte{"f": 'f', "F": 'f', "e": 'e', "E": 'E', "g": 'g', "G": 'G'} {
		for _, x := range some() {
			if math.IsNaN(x) || math.IsInf(x, 0) {
				continue
			}
			sign := ""
			if x < 0 {
				sign = "-"
			}
			for p := -1; p <= 20; p++ {
				f, prec := "%."+strconv.Itoa(p)+letter, p
				if p < 0 {
					f, prec = "%"+letter, 6
				}
				want := sign + strconv.FormatFloat(math.Abs(x), as, prec, 64)
				if len(want) > api.MaxText {
					faults(t, "12.2", f, api.FaultText, n(x))
				} else {
					gives(t, "12.2", f, want, n(x))
				}
			}
			if as == 'g' || as == 'G' {
				gives(t, "12.2", "%.0"+letter, sign+strconv.FormatFloat(math.Abs(x), as, 1, 64), n(x))
			}
		}
	}
}

// 12.2: what is not finite has small letters, whatever the letter and the precision.
func TestFloatsThatAreNotFinite(t *testing.T) {
	for _, letter := range strings.Split("fFeEgG", "") {
		for _, prec := range []string{"", ".", ".0", ".1", ".2", ".9"} {
			gives(t, "12.2", "%"+prec+letter, "inf", n(inf))
			gives(t, "12.2", "%"+prec+letter, "-inf", n(-inf))
			for _, x := range noNumbers() {
				gives(t, "12.2", "%"+prec+letter, "nan", n(x))
			}
		}
	}
}

// 12.2: c of numbers.
func TestBytesOfNumbers(t *testing.T) {
	for b := range 256 {
		want := string([]byte{byte(b)})
		for _, x := range []float64{0, 256, 512, 65536, 1 << 31, 1 << 32, 1<<53 - 256} {
			gives(t, "12.2", "%c", want, n(x+float64(b)))
			gives(t, "12.2", "<%c>", "<"+want+">", printf.Arg{N: x + float64(b), S: "xyz", IsNum: true})
		}
		gives(t, "12.2", "%c%c", want+want, n(float64(b)+0.5), n(float64(b)+0.9))
	}
	for _, x := range append([]float64{minus, -smallest, -0.5, -1, -1.5, -65, -191, -1 << 53, -1e300, 1 << 53, 1<<53 + 2, 1<<53 + 66, 1<<54 + 64, 1 << 63, 1<<63 + 2048, 1 << 64, 1e20, greatest, inf, -inf}, noNumbers()...) {
		gives(t, "12.2", "%c", "\x00", n(x))
		gives(t, "12.2", "%c", "\x00", printf.Arg{N: x, S: "xyz", IsNum: true})
	}
	gives(t, "12.2", "%.0c|%.5c|%+c|% c|%-c", "A|A|A|A|A", n(65), n(65), n(65), n(65), n(65))
}

// 12.2: c of texts, whatever their number is.
func TestBytesOfTexts(t *testing.T) {
	for b := range 256 {
		want := string([]byte{byte(b)})
		gives(t, "12.2", "%c%c", want+want, s(want), s(want+"xyz"))
	}
	gives(t, "12.2", "<%c>", "<>", s(""))
	gives(t, "12.2", "<%c>", "<>", printf.Arg{N: 65})
	gives(t, "12.2", "<%c>", "<x>", printf.Arg{N: 65, S: "xyz"})
	gives(t, "12.2", "<%c>", "<\xc3>", s("\u00e9"))
	gives(t, "12.2", "%.0c|%.5c|%+c|% c|%-c", "x|x|x|x|x", s("xy"), s("xy"), s("xy"), s("xy"), s("xy"))
}

// 12.2: s: the text, or as many of its bytes as the precision says.
func TestTexts(t *testing.T) {
	gives(t, "12.2", "%s|%.0s|%.s|%.1s|%.2s|%.3s|%.4s|%.200s", "abc|||a|ab|abc|abc|abc", s("abc"), s("abc"), s("abc"), s("abc"), s("abc"), s("abc"), s("abc"), s("abc"))
	gives(t, "12.2", "<%s%.0s%.1s>", "<>", s(""), s(""), s(""))
	gives(t, "12.2", "%.1s|%.2s|%.3s", "\xc3|\u00e9|\xe2\x82\xac", s("\u00e9"), s("\u00e9x"), s("\u20ac"))
	gives(t, "12.2", "%s", "\x00\xff%d\n", s("\x00\xff%d\n"))
	gives(t, "12.2", "%s|%.2s|%s|", "five|fi||", printf.Arg{N: 5, S: "five", IsNum: true}, printf.Arg{N: 5, S: "five", IsNum: true}, n(5))
	gives(t, "12.2", "%+s|% s|%-s|%0s", "abc|abc|abc|abc", s("abc"), s("abc"), s("abc"), s("abc"))
}
