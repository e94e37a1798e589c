package num_test

import "testing"

// numerals are some, with signs and without.
func numerals() []string {
	return []string{"0", "1", "12", "007", "1.", "1.5", ".5", "1e3", "1E3", "1e+3", "1.e-3", ".5E-30", "+1", "-1", "+.5", "-1.5e1", "-0", "1e999", "-1e-999", "18446744073709551616"}
}

// 11.1: blanks ahead, behind, on both sides, none.
func TestLooksWithBlanks(t *testing.T) {
	rows := []string{"", blanks, "  ", "\n", "\t \t"}
	for i := range len(blanks) {
		rows = append(rows, blanks[i:i+1])
	}
	for _, ahead := range rows {
		looks(t, ahead, false)
		for _, behind := range rows {
			looks(t, ahead+behind, false)
			looks(t, ahead+"-"+behind, false)
			looks(t, ahead+"."+behind, false)
			for _, s := range numerals() {
				looks(t, ahead+s+behind, true)
			}
		}
	}
}

// 11.1: a blank between.
func TestLooksWithBlanksBetween(t *testing.T) {
	for i := range len(blanks) {
		b := blanks[i : i+1]
		for _, s := range []string{"1" + b + "2", "1" + b + ".5", "1." + b + "5", "-" + b + "1", "+" + b + ".5", "1" + b + "e3", "1e" + b + "3", "1e+" + b + "3", "1e3" + b + "-", b + "1" + b + "x" + b, "1" + b + b + "1", "1" + b + "\x00"} {
			looks(t, s, false)
		}
	}
}

// 11.1: any byte behind a numeral, ahead of it, and in its midst.
func TestLooksWithEachByte(t *testing.T) {
	blank := map[int]int{9: 1, 10: 1, 11: 1, 12: 1, 13: 1, 32: 1}
	for b := range 256 {
		s := string([]byte{byte(b)})
		digit := '0' <= b && b <= '9'
		looks(t, "1"+s, blank[b] > 0 || digit || b == '.')
		looks(t, " 1.5"+s, blank[b] > 0 || digit)
		looks(t, "1.5e-1"+s+" ", blank[b] > 0 || digit)
		looks(t, "1 "+s, blank[b] > 0)
		looks(t, s+"1", blank[b] > 0 || digit || b == '.' || b == '+' || b == '-')
		looks(t, "-"+s+"1", digit || b == '.')
		looks(t, "1"+s+"1", digit || b == '.' || b == 'e' || b == 'E')
		looks(t, "1e"+s+"1", digit || b == '+' || b == '-')
		looks(t, s, digit)
	}
}

// 11.1: a numeral is not whole, or there are two.
func TestLooksOfOthers(t *testing.T) {
	for _, s := range []string{"", ".", "+", "-", "e", "e1", ".e1", "1e", "1e+", "1.e", "1e-", "--1", "+-1", "1-", "1+1", "1..", "1.2.3", "1e1e1", "1e1.5", "1e+-1", "1e 1", "1;", "1\x00", "\x001", "1,000", "0x10", "0b1", "1_0", "inf", "nan", "-inf", "+nan", "1f", "true", "\u00a01", "1\u00a0"} {
		looks(t, s, false)
		looks(t, " "+s+"\n", false)
	}
}
