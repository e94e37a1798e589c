package printf_test

import (
	"strconv"
	"strings"
	"testing"

	"tailrace/printf"
)

// part is what a letter tells, in its two parts.
type part struct{ flag, letter, sign, body string }

// parts are of each letter some, with signs and without.
func parts() map[float64][]part {
	m := map[float64][]part{
		255:  {{"", "d", "", "255"}, {"", "i", "", "255"}, {"", "u", "", "255"}, {"", "o", "", "377"}, {"", "x", "", "ff"}, {"", "X", "", "FF"}},
		-255: {{"", "d", "-", "255"}, {"", "i", "-", "255"}, {"", "u", "-", "255"}, {"", "o", "-", "255"}, {"", "x", "-", "255"}, {"", "X", "-", "255"}},
		0:    {{"", "d", "", "0"}, {"+", "d", "+", "0"}, {" ", "f", " ", "0.000000"}, {"+", "x", "", "0"}},
	}
	for x, sign := range map[float64]string{2.5: "", -2.5: "-"} {
		for letter, body := range map[string]string{"f": "2.500000", "F": "2.500000", "e": "2.500000e+00", "E": "2.500000E+00", "g": "2.5", "G": "2.5"} {
			m[x] = append(m[x], part{"", letter, sign, body})
			if x > 0 {
				m[x] = append(m[x], part{"+", letter, "+", body}, part{" ", letter, " ", body})
			}
		}
	}
	for _, flag := range []string{"+", " "} {
		m[255] = append(m[255], part{flag, "d", flag, "255"}, part{flag, "i", flag, "255"}, part{flag, "u", "", "255"}, part{flag, "o", "", "377"}, part{flag, "x", "", "ff"}, part{flag, "X", "", "FF"})
		m[-255] = append(m[-255], part{flag, "d", "-", "255"}, part{flag, "x", "-", "255"})
	}
	return m
}

// 12.3: each letter of numbers with widths of less, as many and more bytes: blanks ahead or behind, or noughts behind the sign.
func TestFillOfNumbers(t *testing.T) {
	for x, row := range parts() {
		for _, p := range row {
			size := len(p.sign) + len(p.body)
			for w := range 30 {
				d, room := strconv.Itoa(w), max(w-size, 0)
				if w == 0 {
					d = ""
				}
				gives(t, "12.3", "%"+p.flag+d+p.letter, blanks(room)+p.sign+p.body, n(x))
				gives(t, "12.3", "%-"+p.flag+d+p.letter, p.sign+p.body+blanks(room), n(x))
				gives(t, "12.3", "%0"+p.flag+d+p.letter, p.sign+zeros(room)+p.body, n(x))
				gives(t, "12.3", "%"+p.flag+"0-"+d+p.letter, p.sign+p.body+blanks(room), n(x))
				gives(t, "12.3", "%-0"+p.flag+"*"+p.letter, p.sign+p.body+blanks(room), n(float64(w)), n(x))
				gives(t, "12.3", "%0"+p.flag+"*"+p.letter, p.sign+zeros(room)+p.body, n(float64(w)), n(x))
				if w > 0 {
					gives(t, "12.3", "%0"+p.flag+"*"+p.letter, p.sign+p.body+blanks(room), n(-float64(w)), n(x))
				}
			}
		}
	}
}

// 12.3: c and s are filled by blanks alone, of whatever argument.
func TestFillOfTexts(t *testing.T) {
	for _, c := range []struct {
		letter, body string
		arg          printf.Arg
	}{
		{"c", "A", n(65)}, {"c", "\x00", n(-1)}, {"c", "\x00", n(nan)}, {"c", "x", s("xyz")}, {"c", "", s("")},
		{"s", "", s("")}, {"s", "", n(5)}, {"s", "abc", s("abc")}, {"s", "-12", s("-12")}, {"s", "5", printf.Arg{N: 5, S: "5", IsNum: true}}, {".2s", "ab", s("abc")}, {".0s", "", s("abc")}, {".9s", "\u00e9", s("\u00e9")},
	} {
		for w := 1; w < 9; w++ {
			d, room := strconv.Itoa(w), blanks(max(w-len(c.body), 0))
			gives(t, "12.3", "%"+d+c.letter, room+c.body, c.arg)
			gives(t, "12.3", "%0"+d+c.letter, room+c.body, c.arg)
			gives(t, "12.3", "%+ 0"+d+c.letter, room+c.body, c.arg)
			gives(t, "12.3", "%-"+d+c.letter, c.body+room, c.arg)
			gives(t, "12.3", "%-0"+d+c.letter, c.body+room, c.arg)
		}
	}
}

// 12.3: with a precision whole numbers are filled by blanks, floats by noughts all the same.
func TestNoughtsWithPrecision(t *testing.T) {
	for _, letter := range strings.Split("diuoxX", "") {
		gives(t, "12.3", "%05.3"+letter, "  007", n(7))
		gives(t, "12.3", "%06.3"+letter, "  -007", n(-7))
		gives(t, "12.3", "%05.0"+letter+"|%05."+letter+"|%05.9"+letter, "    7|    7|000000007", n(7), n(7), n(7))
		gives(t, "12.3", "%-05.3"+letter+"|", "007  |", n(7))
		gives(t, "12.3", "%05.*"+letter+"|%05.*"+letter, "  007|00007", n(3), n(7), n(-3), n(7))
		gives(t, "12.3", "%030."+letter, "          18446744073709551616", n(1<<64))
	}
	gives(t, "12.3", "%+06.3d|% 06.3i|%+06.3u", "  +007|   007|   007", n(7), n(7), n(7))
	gives(t, "12.3", "%08.2f|%08.0F|%09.1e|%09.1E|%06.3g|%06.0G", "00003.14|00000003|003.1e+00|003.1E+00|003.14|000003", n(3.14159), n(3.14159), n(3.14159), n(3.14159), n(3.14159), n(3.14159))
	gives(t, "12.3", "%08.2f|%+08.2f|% 08.2f|%-08.2f|", "-0003.14|+0003.14| 0003.14|3.14    |", n(-3.14159), n(3.14159), n(3.14159), n(3.14159))
	gives(t, "12.3", "%05.0f|%05.0f|%05.0f", "-0000|00000|00000", n(-0.3), n(minus), n(0.3))
}

// 12.3: what is not finite is filled by blanks alone.
func TestFillOfWhatIsNotFinite(t *testing.T) {
	for _, letter := range strings.Split("diuoxXfFeEgG", "") {
		for body, x := range map[string]float64{"inf": inf, "-inf": -inf, "nan": nan} {
			for w := 1; w < 9; w++ {
				d, room := strconv.Itoa(w), blanks(max(w-len(body), 0))
				for _, prec := range []string{"", ".0", ".6"} {
					gives(t, "12.3", "%"+d+prec+letter, room+body, n(x))
					gives(t, "12.3", "%0"+d+prec+letter, room+body, n(x))
					gives(t, "12.3", "%-"+d+prec+letter, body+room, n(x))
					gives(t, "12.3", "%-0"+d+prec+letter, body+room, n(x))
				}
			}
		}
	}
	gives(t, "12.3", "%+06d|%+06f|% 06g|%+06u", "  +inf|  +nan|   inf|   inf", n(inf), n(nan), n(inf), n(inf))
	gives(t, "12.3", "%-+06d|%-+6e|", "+inf  |+nan  |", n(inf), n(nan))
}

// 12.3: the greatest width.
func TestGreatestWidth(t *testing.T) {
	for _, letter := range strings.Split("diuoxX", "") {
		gives(t, "12.3", "%200"+letter, blanks(198)+"-7", n(-7))
		gives(t, "12.3", "%-200"+letter, "-7"+blanks(198), n(-7))
		gives(t, "12.3", "%0200"+letter, "-"+zeros(198)+"7", n(-7))
	}
	gives(t, "12.3", "%0200.1f", "-"+zeros(196)+"7.0", n(-7))
	gives(t, "12.3", "%200s", blanks(197)+"abc", s("abc"))
	gives(t, "12.3", "%-200c", "a"+blanks(199), s("abc"))
}
