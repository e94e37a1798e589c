package num_test

import (
	"strconv"
	"strings"
	"testing"

	"tailrace/num"
)

// The chapter's examples.
func TestExamples(t *testing.T) {
	reads(t, "  12.5e2x", 1250, 8)
	reads(t, ".e1", 0, 0)
	reads(t, "-7e", -7, 2)
	reads(t, "+", 0, 0)
	looks(t, " 1e3 ", true)
	looks(t, "1x", false)
	looks(t, "", false)
	looks(t, "0x1", false)
	if s := num.Digits(-0.5); s != "0" {
		t.Errorf("11.2: Digits(-0.5): %s", s)
	}
	if s := num.Digits(1e20); s != "100000000000000000000" {
		t.Errorf("11.2: Digits(1e20): %s", s)
	}
	if num.Whole(1e16) {
		t.Error("11.2: Whole(1e16): true")
	}
	if x := num.Rest(7, 0); x == x {
		t.Errorf("11.2: Rest(7, 0): %v", x)
	}
}

// 11.1: digits, perhaps a point and digits or none; or a point and digits.
func TestPrefixOfDigitsAndPoints(t *testing.T) {
	reads(t, "0", 0, 1)
	reads(t, "7", 7, 1)
	reads(t, "0123456789", 123456789, 10)
	reads(t, "00012", 12, 5)
	reads(t, "12.", 12, 3)
	reads(t, "12.x", 12, 3)
	reads(t, "12.5", 12.5, 4)
	reads(t, "12.500", 12.5, 6)
	reads(t, ".5", 0.5, 2)
	reads(t, ".05", 0.05, 3)
	reads(t, "0.", 0, 2)
	reads(t, ".0", 0, 2)
	reads(t, "1.2.3", 1.2, 3)
	reads(t, "1..2", 1, 2)
	reads(t, ".5.", 0.5, 2)
	reads(t, "1 .5", 1, 1)
	reads(t, "1. 5", 1, 2)
	for _, s := range []string{".", "..", "..5", ". 5", ".x", ".-5", "-.", "+.", " . ", "-.x"} {
		reads(t, s, 0, 0)
	}
}

// 11.1: an exponent with a sign and without one; where it has no digits the numeral ends ahead of it.
func TestPrefixOfExponents(t *testing.T) {
	for _, e := range "eE" {
		e := string(e)
		reads(t, "1"+e+"3", 1000, 3)
		reads(t, "1"+e+"+3", 1000, 4)
		reads(t, "1"+e+"-3", 0.001, 4)
		reads(t, "1."+e+"2", 100, 4)
		reads(t, ".5"+e+"1", 5, 4)
		reads(t, "2.5"+e+"00003x", 2500, 9)
		reads(t, "-1"+e+"-0", -1, 5)
		reads(t, "0"+e+"5", 0, 3)
		reads(t, "1"+e, 1, 1)
		reads(t, "1."+e, 1, 2)
		reads(t, ".5"+e+"x", 0.5, 2)
		reads(t, "1"+e+"+", 1, 1)
		reads(t, "1"+e+"-", 1, 1)
		reads(t, "1"+e+"+x", 1, 1)
		reads(t, "1"+e+"--1", 1, 1)
		reads(t, "1"+e+"+-1", 1, 1)
		reads(t, "1"+e+" 1", 1, 1)
		reads(t, "1"+e+"- 1", 1, 1)
		reads(t, "1"+e+".5", 1, 1)
		reads(t, "1 "+e+"1", 1, 1)
		reads(t, "1"+e+"1.5", 10, 3)
		reads(t, "1"+e+"1"+e+"1", 10, 3)
		reads(t, "1"+e+e+"1", 1, 1)
		reads(t, "-12"+e+"+x", -12, 3)
		for _, s := range []string{e, e + "1", "+" + e + "1", "." + e + "1", "-." + e, " " + e + "+1"} {
			reads(t, s, 0, 0)
		}
	}
}

// 11.1: no sign, either sign, more than one, a sign and a blank.
func TestPrefixOfSigns(t *testing.T) {
	for _, c := range []struct {
		s  string
		x  float64
		at int
	}{{"3", 3, 1}, {"3.5x", 3.5, 3}, {".25", 0.25, 3}, {"4e2", 400, 3}, {"12.e-1", 1.2, 6}} {
		reads(t, c.s, c.x, c.at)
		reads(t, "+"+c.s, c.x, c.at+1)
		reads(t, "-"+c.s, -c.x, c.at+1)
		reads(t, " -"+c.s, -c.x, c.at+2)
		for _, ahead := range []string{"++", "--", "+-", "-+", "+ ", "- ", "-\n", "+\t", " - ", "-x", "-\x00"} {
			reads(t, ahead+c.s, 0, 0)
		}
	}
	for _, s := range []string{"+", "-", "++", "+-", " -", "- ", "+\x00"} {
		reads(t, s, 0, 0)
	}
	reads(t, "1-2", 1, 1)
	reads(t, "1+2", 1, 1)
}

// 11.1: each blank alone, in rows, and all in all orders; with none behind them 0 and 0.
func TestPrefixBehindBlanks(t *testing.T) {
	for i := range len(blanks) {
		b := blanks[i : i+1]
		reads(t, b, 0, 0)
		reads(t, b+b, 0, 0)
		reads(t, b+"12", 12, 3)
		reads(t, b+"-1.5"+b, -1.5, 5)
		reads(t, strings.Repeat(b, 1000)+"+.5", 0.5, 1003)
		for j := range len(blanks) {
			reads(t, b+blanks[j:j+1]+b+"7e1", 70, 6)
			reads(t, b+"1"+blanks[j:j+1]+"2", 1, 2)
		}
	}
	reads(t, blanks, 0, 0)
	reads(t, blanks+"-3"+blanks, -3, 8)
	reads(t, blanks+"x3", 0, 0)
}

// 11.1: of all bytes just those six are blanks; ahead of a numeral a digit, a point, a sign may stand, too.
func TestPrefixBehindEachByte(t *testing.T) {
	for b := range 256 {
		s := string([]byte{byte(b)})
		switch {
		case strings.Contains(blanks, s):
			reads(t, s+"5", 5, 2)
			reads(t, s+s+"5"+s+"5", 5, 3)
		case '0' <= b && b <= '9':
			reads(t, s+"5", float64(10*(b-'0')+5), 2)
		case b == '.':
			reads(t, s+"5", 0.5, 2)
		case b == '+':
			reads(t, s+"5", 5, 2)
		case b == '-':
			reads(t, s+"5", -5, 2)
		default:
			reads(t, s+"5", 0, 0)
			reads(t, " "+s+"5", 0, 0)
			reads(t, "-"+s+"5", 0, 0)
		}
	}
	for _, s := range []string{"\u00a05", "\u20035", "\u00855", "\u066a", "\uff15", "\u0665", "\u22125", "\xa05"} {
		reads(t, s, 0, 0)
	}
}

// 11.1: behind a numeral each byte that does not go on with it ends it.
func TestPrefixAheadOfEachByte(t *testing.T) {
	for b := range 256 {
		s := string([]byte{byte(b)})
		switch {
		case '0' <= b && b <= '9':
			reads(t, "1.5"+s, 1.5+float64(b-'0')/100, 4)
			reads(t, "1e1"+s, []float64{1e10, 1e11, 1e12, 1e13, 1e14, 1e15, 1e16, 1e17, 1e18, 1e19}[b-'0'], 4)
		default:
			reads(t, "1.5"+s, 1.5, 3)
			reads(t, "1.5"+s+"x", 1.5, 3)
			reads(t, "1e1"+s, 10, 3)
			reads(t, "1e1"+s+"5", 10, 3)
		}
	}
}

// 11.1: what is no numeral of this chapter, though it is one elsewhere.
func TestPrefixOfWhatIsNoNumeral(t *testing.T) {
	for s, at := range map[string]int{"0x1": 1, "0X1F": 1, "0x1p4": 1, "0b11": 1, "0o17": 1, "1_000": 1, "0_1": 1, "1.5_5": 3, "1p3": 1, "1,5": 1, "1f": 1, "1d": 1, "1i": 1, "1e1_0": 3} {
		x, _ := strconv.ParseFloat(s[:at], 64)
		reads(t, s, x, at)
		reads(t, " -"+s, 0-x, at+2)
		looks(t, s, false)
	}
	for _, s := range []string{"inf", "Inf", "INF", "infinity", "Infinity", "nan", "NaN", "NAN", "_1", "x1", "$1", "e5", "p1", "''", "ten"} {
		for _, ahead := range []string{"", "+", "-", " ", " -"} {
			reads(t, ahead+s, 0, 0)
			looks(t, ahead+s, false)
		}
	}
	for _, s := range []string{"", " ", "\n \t", "\x00", "\x001", "\xff"} {
		reads(t, s, 0, 0)
		looks(t, s, false)
	}
}
