package printf_test

import (
	"runtime"
	"strconv"
	"strings"
	"testing"

	"tailrace/api"
	"tailrace/printf"
)

// The chapter's examples.
func TestExamples(t *testing.T) {
	gives(t, "12.2", "%5.2f|%-4d|%04d", " 3.14|7   |-007", n(3.14159), n(7), n(-7))
	gives(t, "12.2", "%x %o %c%c %s", "ff 10 Ah yes", n(255), n(8), n(65), s("hi"), s("yes"))
	faults(t, "12.1", "%q", api.FaultFormat)
	faults(t, "12.1", "%", api.FaultFormat)
	faults(t, "12.1", "%999d", api.FaultFormat, n(1))
	tells(t, 0.1, "%.6g", "0.1")
	tells(t, 3, "%.6g", "3")
	tells(t, 1e300, "%.6g", "1e+300")
}

// 12.1: a format without a % is told as it is, whatever its bytes are.
func TestNoConversion(t *testing.T) {
	all := ""
	for b := range 256 {
		if one := string([]byte{byte(b)}); one != "%" {
			gives(t, "12.1", one, one)
			gives(t, "12.1", one, one, n(1), s("x"))
			all += one
		}
	}
	gives(t, "12.1", all, all)
	for _, f := range []string{"", "a", "plain text\n", "-+ 0*.5d", "\x00", "\xff\xfe", "\u00e9", "\\n\\45"} {
		gives(t, "12.1", f, f)
		gives(t, "12.1", f, f, n(1), s("x"))
	}
}

// 12.1: %% is a %, and takes no argument.
func TestPercents(t *testing.T) {
	gives(t, "12.1", "%%", "%")
	gives(t, "12.1", "%%%%", "%%")
	gives(t, "12.1", "a%%", "a%")
	gives(t, "12.1", "%%b", "%b")
	gives(t, "12.1", "a%%b%%%%c", "a%b%%c")
	gives(t, "12.1", "%%d", "%d", n(5))
	gives(t, "12.1", "%%%d", "%5", n(5))
	gives(t, "12.1", "%d%%", "5%", n(5))
	gives(t, "12.1", "%d%%%d", "5%6", n(5), n(6))
	gives(t, "12.1", "%%5d%%s", "%5d%s", n(5), s("x"))
	gives(t, "12.1", "%s", "%%", s("%%"))
	gives(t, "12.1", "%s%s", "%d%", s("%d"), s("%"))
	for _, f := range []string{"%%%", "%%%%%", "%-%", "%+%", "% %", "%0%", "%5%", "%.%", "%.5%", "%5.5%", "%*%", "%.*%", "a%5%b"} {
		faults(t, "12.1", f, api.FaultFormat, n(1), n(2))
	}
}

// flagged tells 5 with flags and a width of 4, by the plain words of the chapter.
func flagged(flags string) string {
	sign := ""
	if strings.Contains(flags, "+") {
		sign = "+"
	} else if strings.Contains(flags, " ") {
		sign = " "
	}
	room := 3 - len(sign)
	if strings.Contains(flags, "-") {
		return sign + "5" + blanks(room)
	}
	if strings.Contains(flags, "0") {
		return sign + zeros(room) + "5"
	}
	return blanks(room) + sign + "5"
}

// 12.1: each flag, alone, several times, and with the others.
func TestFlags(t *testing.T) {
	gives(t, "12.1", "%-d|%+d|% d|%0d|", "5|+5| 5|5|", n(5), n(5), n(5), n(5))
	gives(t, "12.1", "%-4d|%+4d|% 4d|%04d|", "5   |  +5|   5|0005|", n(5), n(5), n(5), n(5))
	gives(t, "12.1", "%---4d|%+++4d|%   4d|%0004d|", "5   |  +5|   5|0005|", n(5), n(5), n(5), n(5))
	gives(t, "12.1", "%-+ 04d|%0 +-4d|%+ d|% +d|", "+5  |+5  |+5|+5|", n(5), n(5), n(5), n(5))
	for _, flags := range shortTexts("-+ 0", 5) {
		gives(t, "12.1", "<%"+flags+"4d>", "<"+flagged(flags)+">", n(5))
	}
	gives(t, "12.1", "%"+strings.Repeat("0", 100000)+"4d", "0005", n(5))
	gives(t, "12.1", "%"+strings.Repeat("-+ 0", 100000)+"4d", "+5  ", n(5))
}

// 12.1: a width of digits, up to MaxWidth.
func TestWidths(t *testing.T) {
	for w := 1; w <= api.MaxWidth; w++ {
		d := strconv.Itoa(w)
		gives(t, "12.1", "%"+d+"d", blanks(w-1)+"7", n(7))
		gives(t, "12.1", "%-"+d+"s", "a"+blanks(w-1), s("a"))
		gives(t, "12.1", "%000"+d+"d", zeros(w-1)+"7", n(7))
	}
	for _, d := range []string{"201", "202", "209", "210", "300", "999", "1000", "2000", "65537", "2147483649", "4294967297", "9223372036854775809", "18446744073709551617", "1" + zeros(1000), strings.Repeat("9", 1000)} {
		for _, letter := range strings.Split(letters, "") {
			faults(t, "12.1", "%"+d+letter, api.FaultFormat, n(7))
			faults(t, "12.1", "a%-0"+d+letter+"b", api.FaultFormat)
			faults(t, "12.1", "%"+d+".3"+letter, api.FaultFormat, n(7))
		}
	}
}

// 12.1: a width of an argument: its number's whole part; below 0 it is the flag -, too.
func TestWidthsOfArguments(t *testing.T) {
	for w := -api.MaxWidth; w <= api.MaxWidth; w++ {
		room := blanks(max(w, -w, 1) - 1)
		want := room + "7"
		if w < 0 {
			want = "7" + room
		}
		for _, part := range []float64{0, 0.25, 0.9} {
			x := float64(w) + part
			if w < 0 {
				x = float64(w) - part
			}
			gives(t, "12.1", "%*d", want, n(x), n(7))
			gives(t, "12.1", "%*d", want, printf.Arg{N: x, S: "9x"}, n(7))
			gives(t, "12.1", "%-*d|", "7"+room+"|", n(x), n(7))
		}
	}
	gives(t, "12.1", "%*d|%*d|%*d", "7|7|7", n(minus), n(7), n(-0.9), n(7), n(0.9), n(7))
	gives(t, "12.1", "%0*d|%0*d|%0-*d|", "007|7  |7  |", n(3), n(7), n(-3), n(7), n(3), n(7))
	gives(t, "12.1", "%*d", "0")
	gives(t, "12.1", "%*s|", "|", s("7"))
	gives(t, "12.1", "%*s|", "  |", n(2))
	for _, x := range append([]float64{201, -201, 202, 201.5, -201.5, 1000, 1 << 31, -1 << 31, 1 << 32, 1<<32 + 1, 1 << 63, -1 << 63, 1 << 64, 1e300, -greatest, greatest, inf, -inf}, noNumbers()...) {
		faults(t, "12.1", "%*d", api.FaultFormat, n(x), n(7))
		faults(t, "12.1", "a%-*.3sb", api.FaultFormat, n(x), n(7))
		faults(t, "12.1", "%*c", api.FaultFormat, printf.Arg{N: x, S: "5"})
	}
	for _, f := range []string{"%**d", "%*5d", "%5*d", "%*-d", "%* d", "%*0d", "%*+5d"} {
		faults(t, "12.1", f, api.FaultFormat, n(5), n(5), n(5))
	}
}

// 12.1: a precision of digits, up to MaxWidth; without digits it is 0.
func TestPrecisions(t *testing.T) {
	text := strings.Repeat("abcde", 60)
	for p := range api.MaxWidth + 1 {
		d := strconv.Itoa(p)
		gives(t, "12.1", "%."+d+"s", text[:p], s(text))
		gives(t, "12.1", "%."+d+"d", zeros(max(p, 1)-1)+"7", n(7))
		gives(t, "12.1", "%.000000000000000000000"+d+"d", zeros(max(p, 1)-1)+"7", n(7))
	}
	gives(t, "12.1", "%.s|%.d|%.f|%5.f|%-3.s|%.e|%.g", "|7|3|    3|   |3e+00|2e+01", s("abc"), n(7), n(2.7), n(2.7), s("abc"), n(2.7), n(15))
	for _, d := range []string{"201", "202", "210", "300", "1000", "2147483649", "4294967297", "18446744073709551617", "1" + zeros(1000), zeros(50) + "201"} {
		for _, letter := range strings.Split(letters, "") {
			faults(t, "12.1", "%."+d+letter, api.FaultFormat, n(7))
			faults(t, "12.1", "a%-05."+d+letter+"b", api.FaultFormat)
		}
	}
	for _, f := range []string{"%.-5d", "%.+5d", "%. 5d", "%..d", "%..5d", "%.5.d", "%.5.5d", "%5.5.5d", "%.5-d"} {
		faults(t, "12.1", f, api.FaultFormat, n(5), n(5))
	}
}

// 12.1: a precision of an argument: its number's whole part; below 0 there is none.
func TestPrecisionsOfArguments(t *testing.T) {
	text := strings.Repeat("abcde", 50)
	for p := range api.MaxWidth + 1 {
		for _, part := range []float64{0, 0.25, 0.9} {
			gives(t, "12.1", "%.*s", text[:p], n(float64(p)+part), s(text))
			gives(t, "12.1", "%.*d", zeros(max(p, 1)-1)+"7", printf.Arg{N: float64(p) + part, S: "9x"}, n(7))
		}
	}
	gives(t, "12.1", "%.*s|%.*s|%.*f", "||3", n(minus), s("abc"), n(-0.9), s("abc"), n(-0.5), n(2.7))
	for _, x := range []float64{-1, -1.9, -2, -200, -201, -1000, -1 << 31, -1 << 32, -1<<32 + 5, -1 << 63, -1e300, -greatest} {
		gives(t, "12.1", "%.*s", text, n(x), s(text))
		gives(t, "12.1", "%.*f %.*g", "2.500000 0.333333", n(x), n(2.5), n(x), n(1.0/3))
		gives(t, "12.1", "%05.*d", "00007", n(x), n(7))
	}
	gives(t, "12.1", "%.*d", "0")
	gives(t, "12.1", "%.*f", "0")
	for _, x := range append([]float64{201, 201.5, 1000, 1 << 31, 1 << 32, 1<<32 + 1, 1 << 63, 1 << 64, 1e300, greatest, inf, -inf}, noNumbers()...) {
		faults(t, "12.1", "%.*d", api.FaultFormat, n(x), n(7))
		faults(t, "12.1", "a%-5.*sb", api.FaultFormat, printf.Arg{N: x, S: "5"}, n(7))
	}
	for _, f := range []string{"%.**d", "%.*5d", "%.5*d", "%.-*d", "%.*.d", "%.*.*d"} {
		faults(t, "12.1", f, api.FaultFormat, n(5), n(5), n(5))
	}
}

// 12.1: width, precision and what is told are taken in this order, each the next argument.
func TestOrderOfArguments(t *testing.T) {
	gives(t, "12.1", "%*.*f", "  1.00", n(6), n(2), n(1))
	gives(t, "12.1", "%*.*d|%-*.*s|%s", "  003|ab  |x", n(5), n(3), n(3), n(4), n(2), s("abc"), s("x"))
	gives(t, "12.1", "%d%*d%d", "1  23", n(1), n(3), n(2), n(3))
	gives(t, "12.1", "%.*s%*s", "a  b", n(1), s("aa"), n(3), s("b"))
	gives(t, "12.1", "%*.*s|", "  |", n(2))
}

// 12.1: arguments that are not there are 0 and empty; those that are too many are left.
func TestTooFewAndTooManyArguments(t *testing.T) {
	gives(t, "12.1", "%d %i %u %o %x %X", "0 0 0 0 0 0")
	gives(t, "12.1", "%f %F %e %E %g %G", "0.000000 0.000000 0.000000e+00 0.000000E+00 0 0")
	gives(t, "12.1", "<%c%s>", "<>")
	gives(t, "12.1", "%d %d %d", "1 2 0", n(1), n(2))
	gives(t, "12.1", "%s-%s-%s", "a--", s("a"))
	gives(t, "12.1", "<%3c|%-3c|%3s>", "<   |   |   >")
	gives(t, "12.1", "%d", "1", n(1), n(2), s("x"))
	gives(t, "12.1", "a", "a", n(nan), s(strings.Repeat("x", 1000)))
	gives(t, "12.1", "%s", "x", s("x"), s(strings.Repeat("x", 1000)))
	gives(t, "12.1", strings.Repeat("%s", 1000), "x", s("x"))
}

// 12.1: of each byte behind a %, with flags, a width or a precision between or none: is it a letter?
func TestLetters(t *testing.T) {
	for b := range 256 {
		one := string([]byte{byte(b)})
		is := strings.Contains(letters, one)
		for _, ahead := range []string{"", "-", "+", " ", "0", "5", "-5", ".", ".3", "5.3", "*", ".*", "*.*"} {
			f := "%" + ahead + one
			if f == "%%" {
				continue
			}
			want := api.FaultFormat
			if is {
				want = api.OK
			}
			if _, e := printf.Format(f, n(2), n(3), n(4)); e != want {
				t.Errorf("12.1: Format(%q): %d, want %d", f, e, want)
			}
		}
		if !is && !strings.Contains("-+ 0123456789*.%", one) {
			faults(t, "12.1", "%"+one+"d", api.FaultFormat, n(1))
			faults(t, "12.1", "x%5"+one+"d", api.FaultFormat, n(1))
			faults(t, "12.1", "%d%."+one+"d", api.FaultFormat, n(1))
		}
	}
	for _, f := range []string{"%ld", "%hd", "%lld", "%zu", "%#x", "%'d", "%1$d", "%v", "%a", "%A", "%b", "%D", "%n", "%p", "%\x00", "%\xff", "%\u00e9", "%(d)"} {
		faults(t, "12.1", f, api.FaultFormat, n(1))
	}
}

// 12.1: the text's end at each place within a conversion.
func TestEnds(t *testing.T) {
	for _, f := range []string{"%d", "%-+ 0d", "%12d", "%*d", "%.d", "%.34d", "%.*d", "%12.34d", "%-+ 0*.*d", "%00200.00200s", "%--5.*c"} {
		for end := 1; end < len(f); end++ {
			faults(t, "12.1", f[:end], api.FaultFormat, n(2), n(3), n(4))
			faults(t, "12.1", f[:end], api.FaultFormat)
			faults(t, "12.1", "abc"+f[:end], api.FaultFormat, n(2), n(3), n(4))
			faults(t, "12.1", f+f[:end], api.FaultFormat, n(2), n(3), n(4))
		}
		if _, e := printf.Format(f, n(2), n(3), n(4)); e != api.OK {
			t.Errorf("12.1: Format(%q): %d", f, e)
		}
	}
}

// 12.1: the whole text has at most MaxText bytes, however it comes to them.
func TestMaxText(t *testing.T) {
	a := strings.Repeat("a", api.MaxText)
	gives(t, "12.1", a, a)
	faults(t, "12.1", a+"a", api.FaultText)
	gives(t, "12.1", a+"%s%c%.0s", a, s(""), s(""), s("xyz"))
	faults(t, "12.1", a+"%d", api.FaultText)
	faults(t, "12.1", "%c"+a, api.FaultText, n(0))
	faults(t, "12.1", a+"%%", api.FaultText)
	gives(t, "12.1", strings.Repeat("%%", api.MaxText), strings.Repeat("%", api.MaxText))
	faults(t, "12.1", strings.Repeat("%%", api.MaxText+1), api.FaultText)
	gives(t, "12.1", "%s", a, s(a))
	faults(t, "12.1", "%s", api.FaultText, s(a+"a"))
	faults(t, "12.1", "%5s", api.FaultText, s(a+"a"))
	gives(t, "12.1", "%.200s", a[:200], s(a+"a"))
	gives(t, "12.1", "%200d%56d", blanks(199)+"1"+blanks(55)+"2", n(1), n(2))
	faults(t, "12.1", "%200d%57d", api.FaultText, n(1), n(2))
	faults(t, "12.1", "%-200d%-57d", api.FaultText, n(1), n(2))
	faults(t, "12.1", "%0200d%057d", api.FaultText, n(1), n(2))
	gives(t, "12.1", "%.200d%.56d", zeros(199)+"1"+zeros(55)+"2", n(1), n(2))
	faults(t, "12.1", "%.200d%.57d", api.FaultText, n(1), n(2))
	faults(t, "12.1", "%d", api.FaultText, n(1e300))
	faults(t, "12.1", "%x", api.FaultText, n(-1e300))
	faults(t, "12.1", "%f", api.FaultText, n(greatest))
	faults(t, "12.1", "%.0f", api.FaultText, n(1e260))
	gives(t, "12.1", "%.200e", "1."+zeros(200)+"e+00", n(1))
}

// 12.1: a format that is wrong anywhere is one, whatever it comes to ahead of that.
func TestWrongIsAheadOfTooMuch(t *testing.T) {
	a := strings.Repeat("a", api.MaxText+1)
	for _, f := range []string{"%q", "%", "%5", "%.", "%-", "%5%", "%201d", "%.201d", "%*d", "%.*d", "x%d%d%q"} {
		faults(t, "12.1", a+f, api.FaultFormat, n(inf), n(1))
		faults(t, "12.1", "%s"+f, api.FaultFormat, s(a), n(inf), n(1))
		faults(t, "12.1", f+a, api.FaultFormat, n(inf), n(1))
	}
}

// R1: a text that is told many times takes no more room than shows that it is too much.
func TestManyTimesALongText(t *testing.T) {
	long := s(strings.Repeat("x", 1<<20))
	var args []printf.Arg
	for range 1 << 8 {
		args = append(args, long)
	}
	var before, behind runtime.MemStats
	runtime.ReadMemStats(&before)
	faults(t, "12.1", strings.Repeat("%s", len(args)), api.FaultText, args...)
	faults(t, "12.1", strings.Repeat("%-200s", len(args)), api.FaultText, args...)
	faults(t, "12.1", strings.Repeat("%s", len(args))+"%", api.FaultFormat, args...)
	faults(t, "12.1", strings.Repeat(long.S, 1<<4), api.FaultText)
	gives(t, "12.1", strings.Repeat("%.0s", len(args))+"%.5s", "xxxxx", append(args, long)...)
	runtime.ReadMemStats(&behind)
	if more := behind.TotalAlloc - before.TotalAlloc; more > 1<<26 {
		t.Errorf("R1: %d bytes of memory", more)
	}
}
