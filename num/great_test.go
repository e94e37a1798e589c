package num_test

import (
	"math"
	"strings"
	"testing"
)

// zeros tells so many of them.
func zeros(n int) string { return strings.Repeat("0", n) }

// 11.1: what is too great is an infinity, of its sign.
func TestPrefixOfWhatIsTooGreat(t *testing.T) {
	for _, s := range []string{"1e309", "1e999", "2e308", "1.7976931348623159e308", "1" + zeros(309), "9" + zeros(400) + ".5", "1e99999", "1e100000", "1e99999999999999999999999", "0.1e310", "." + zeros(1000) + "1e1310"} {
		for ahead, x := range map[string]float64{"": inf, "+": inf, "-": -inf, " \t-": -inf} {
			reads(t, ahead+s, x, len(ahead+s))
			reads(t, ahead+s+" 1", x, len(ahead+s))
			looks(t, ahead+s+" ", true)
		}
	}
	reads(t, "1.7976931348623157e308", greatest, 22)
	reads(t, "-1.7976931348623157e+308x", -greatest, 24)
	reads(t, "1.7976931348623158e308", greatest, 22)
}

// 11.1: what is too small is 0, of either sign.
func TestPrefixOfWhatIsTooSmall(t *testing.T) {
	for _, s := range []string{"1e-324", "2e-324", "1e-999", "2.4703282292062327e-324", "." + zeros(400) + "1", "0." + zeros(323) + "1", "1e-99999", "1e-99999999999999999999999"} {
		for _, ahead := range []string{"", "+", "-", "\r-"} {
			reads(t, ahead+s, 0, len(ahead+s))
			looks(t, ahead+s, true)
		}
	}
	reads(t, "5e-324", smallest, 6)
	reads(t, "-3e-324", -smallest, 7)
	reads(t, "2.4703282292062328e-324", smallest, 23)
	reads(t, "0."+zeros(323)+"5", smallest, 326)
}

// 11.1 and 11.2: no -0.
func TestPrefixOfZeros(t *testing.T) {
	for _, s := range []string{"0", "0.", ".0", "0.0", "000", "0e5", "0e-5", "0e+999", "0e99999999999999999999", ".00e-999", zeros(1000), "0." + zeros(1000)} {
		for _, ahead := range []string{"", "+", "-", " ", " +", "\f-"} {
			reads(t, ahead+s, 0, len(ahead+s))
			reads(t, ahead+s+"x", 0, len(ahead+s))
			looks(t, ahead+s, true)
		}
	}
}

// 11.1: all digits of a numeral count, however many there are.
func TestPrefixOfManyDigits(t *testing.T) {
	reads(t, zeros(1000)+"12", 12, 1002)
	reads(t, "12."+zeros(1000), 12, 1003)
	reads(t, "1"+zeros(300)+"e-300", 1, 306)
	reads(t, "0."+zeros(299)+"1e300", 1, 306)
	reads(t, "1."+zeros(1000)+"e2", 100, 1004)
	reads(t, "1e"+zeros(1000)+"2", 100, 1003)
	reads(t, "1e-"+zeros(1000)+"2", 0.01, 1004)
	// 2^53 + 1 lies between two numbers: that one is taken whose last bit is 0, but the other one of whatever is more.
	reads(t, "9007199254740993", 1<<53, 16)
	reads(t, "9007199254740993."+zeros(700), 1<<53, 717)
	reads(t, "9007199254740993."+zeros(700)+"1", 1<<53+2, 718)
	reads(t, "-9007199254740993."+zeros(5000)+"1e0", -(1<<53 + 2), 5021)
	reads(t, "9007199254740992."+strings.Repeat("9", 3000), 1<<53, 3017)
	reads(t, "0.1000000000000000055511151231257827021181583404541015625", 0.1, 57)
	reads(t, strings.Repeat("3", 309), math.Inf(1), 309)
	reads(t, strings.Repeat("1", 309), 1.1111111111111112e308, 309)
	reads(t, "0."+strings.Repeat("3", 100000), 1.0/3, 100002)
}

// 11.1 and R1: very long texts, once gone over.
func TestVeryLongTexts(t *testing.T) {
	const n = 1 << 22
	row := strings.Repeat(" ", n)
	reads(t, row, 0, 0)
	reads(t, row+"-1", -1, n+2)
	reads(t, row+"-", 0, 0)
	reads(t, strings.Repeat("9", n), inf, n)
	reads(t, "-"+zeros(n), 0, n+1)
	reads(t, "."+zeros(n)+"e", 0, n+1)
	reads(t, strings.Repeat("+", n), 0, 0)
	reads(t, strings.Repeat("1e+", n), 10, 4)
	reads(t, strings.Repeat(".", n), 0, 0)
	looks(t, row, false)
	looks(t, row+"1"+row, true)
	looks(t, row+"1"+row+"x", false)
	looks(t, "1"+row+"1", false)
	looks(t, zeros(n)+"."+zeros(n)+"e+"+zeros(n)+row, true)
	looks(t, zeros(n)+"."+zeros(n)+"e+"+row, false)
}
