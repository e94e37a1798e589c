package num_test

import (
	"math"
	"math/big"
	"testing"

	"tailrace/num"
)

// tells wants these digits of a number, and so, if they are any but 0, with the sign ahead, of the same below 0.
func tells(t *testing.T, x float64, want string) {
	t.Helper()
	if s := num.Digits(x); s != want {
		t.Errorf("11.2: Digits(%v): %s, want %s", x, s, want)
	}
	if want != "0" && want != "nan" {
		want = "-" + want
	}
	if s := num.Digits(-x); s != want {
		t.Errorf("11.2: Digits(%v): %s, want %s", -x, s, want)
	}
}

// 11.2: the whole part, towards 0, without a broken one.
func TestDigits(t *testing.T) {
	for _, x := range []float64{0, smallest, 1e-300, 1e-9, 0.1, 0.5, 0.9, math.Nextafter(1, 0)} {
		tells(t, x, "0")
	}
	for _, x := range []float64{1, math.Nextafter(1, 2), 1.5, math.Nextafter(2, 0)} {
		tells(t, x, "1")
	}
	tells(t, 2, "2")
	tells(t, 2.5, "2")
	tells(t, 3.5, "3")
	tells(t, 3.7, "3")
	tells(t, 10, "10")
	tells(t, 99.999, "99")
	tells(t, 123456789, "123456789")
	tells(t, 1<<31, "2147483648")
	tells(t, 1<<52-0.5, "4503599627370495")
	tells(t, 1<<53, "9007199254740992")
}

// 11.2: great ones have all their digits, none rounded.
func TestDigitsOfGreatNumbers(t *testing.T) {
	tells(t, 1e16-2, "9999999999999998")
	tells(t, 1e16, "10000000000000000")
	tells(t, 1e16+2, "10000000000000002")
	tells(t, 1<<63, "9223372036854775808")
	tells(t, 1<<64, "18446744073709551616")
	tells(t, 1<<64+4096, "18446744073709555712")
	tells(t, 1e20, "100000000000000000000")
	tells(t, 1e22, "10000000000000000000000")
	tells(t, 1e23, "99999999999999991611392")
	tells(t, 0x1p100, "1267650600228229401496703205376")
	tells(t, greatest, "17976931348623157081452742373170435679807056752584499659891747680315726078002853876058955863276687817154045895"+
		"35143824642343213268894641827684675467035375169860499105765512820762454900903893289440758685084551339423045832"+
		"36903222948165808559332123348274797826204144723168738177180919299881250404026184124858368")
}

// 11.2: what is not finite, and -0.
func TestDigitsOfWhatIsNotFinite(t *testing.T) {
	tells(t, inf, "inf")
	tells(t, minus, "0")
	for _, x := range noNumbers() {
		tells(t, x, "nan")
	}
}

// 11.2: each of all kinds, against what reckons exactly; never a -0.
func TestDigitsExactly(t *testing.T) {
	for _, x := range append(finite(), picked(20000)...) {
		if math.IsNaN(x) || math.IsInf(x, 0) {
			continue
		}
		whole, _ := big.NewFloat(x).Int(nil)
		if s := num.Digits(x); s != whole.String() {
			t.Errorf("11.2: Digits(%v): %s, want %s", x, s, whole)
		}
	}
}

// 11.2: whole numbers below 10^16, in their size.
func TestWhole(t *testing.T) {
	for _, x := range []float64{0, 1, 2, 3, 10, 255, 1 << 31, 1 << 32, 1<<52 - 1, 1 << 52, 1<<52 + 1, 1<<53 - 1, 1 << 53, 1<<53 + 2, 1e15, 1e15 + 1, 9999999999999996, 1e16 - 2} {
		if !num.Whole(x) || !num.Whole(-x) {
			t.Errorf("11.2: Whole(%v), Whole(%v): %v, %v", x, -x, num.Whole(x), num.Whole(-x))
		}
	}
}

// 11.2: broken ones, those from 10^16 on, and what is not finite.
func TestNotWhole(t *testing.T) {
	l := []float64{smallest, 1e-300, 0.1, 0.5, math.Nextafter(0.5, 0), math.Nextafter(1, 0), math.Nextafter(1, 2), 1.5, 2.5, 99.999, 1<<32 + 0.5, 1<<51 + 0.5, 1<<52 - 0.5, 4503599627370494.5}
	l = append(l, 1e16, 1e16+2, 1e17, 1<<63, 1<<64, 1e20, 1e300, greatest, inf)
	for _, x := range append(l, noNumbers()...) {
		if num.Whole(x) || num.Whole(-x) {
			t.Errorf("11.2: Whole(%v), Whole(%v): %v, %v", x, -x, num.Whole(x), num.Whole(-x))
		}
	}
}

// 11.2: picked ones, against what reckons exactly.
func TestWholeExactly(t *testing.T) {
	limit := big.NewFloat(1e16)
	for _, x := range append(some(), picked(20000)...) {
		want := false
		if !math.IsNaN(x) && !math.IsInf(x, 0) {
			z := big.NewFloat(x)
			want = z.IsInt() && z.Abs(z).Cmp(limit) < 0
		}
		if num.Whole(x) != want {
			t.Errorf("11.2: Whole(%v): %v", x, !want)
		}
	}
}
