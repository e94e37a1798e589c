package value_test

import (
	"fmt"
	"math"
	"testing"

	"tailrace/api"
	"tailrace/printf"
	"tailrace/value"
)

// numbers wants this number of a value.
func numbers(t *testing.T, v api.Val, want float64) {
	t.Helper()
	if x := value.ToNum(v); !alike(x, want) {
		t.Errorf("13.2: ToNum(%s): %v, want %v", short(v), x, want)
	}
}

// reads wants this text of a value, by a format.
func reads(t *testing.T, v api.Val, f, want string) {
	t.Helper()
	if s, e := value.ToText(v, f); s != want || e != api.OK {
		t.Errorf("13.2: ToText(%s, %.40q): %q %d, want %q", short(v), f, s, e, want)
	}
}

// faults wants this fault of a value's text by a format.
func faults(t *testing.T, v api.Val, f string, want api.Errno) {
	t.Helper()
	if s, e := value.ToText(v, f); s != "" || e != want {
		t.Errorf("13.2: ToText(%s, %.40q): %q %d, want %d", short(v), f, s, e, want)
	}
}

// counts wants a value to be true, or not.
func counts(t *testing.T, v api.Val, want bool) {
	t.Helper()
	if value.True(v) != want {
		t.Errorf("13.2: True(%s): %v", short(v), !want)
	}
}

// badFormats are faults, of each number that is not whole.
func badFormats() map[string]api.Errno {
	return map[string]api.Errno{
		"%": api.FaultFormat, "%q": api.FaultFormat, "%201d": api.FaultFormat, "%.201g": api.FaultFormat, "a%": api.FaultFormat,
		many("a", api.MaxText+1): api.FaultText, many("%%", api.MaxText+1): api.FaultText, "%200g" + many(" ", api.MaxText-199): api.FaultText, "%200d%57d": api.FaultText,
	}
}

// 13.2: each kind as a number.
func TestToNum(t *testing.T) {
	numbers(t, unset, 0)
	for _, x := range floats() {
		numbers(t, number(x), x)
	}
	for _, v := range strnums() {
		numbers(t, v, v.N)
		numbers(t, text(v.S), v.N)
	}
	for s, want := range map[string]float64{
		"": 0, "a": 0, "10x": 10, "  12.5e2x": 1250, "-7e": -7, "+": 0, ".e1": 0, "0x1A": 0, "1e999 x": inf, "-1e999x": -inf, "-0x": 0, "1e-999x": 0, "-.5.5": -0.5, "3\x00": 3, "3\xff": 3, "\x003": 0, "x3": 0, "inf": 0, "nan": 0, "1 2": 1, "\n\t 4\n5": 4,
	} {
		numbers(t, text(s), want)
	}
}

// 13.2: what is no text's number is its number's text: a StrNum's text is as it came.
func TestToTextOfTexts(t *testing.T) {
	for _, f := range []string{conv, "", "x", "%d", "%s", "%q", "%", many("a", api.MaxText+1)} {
		reads(t, unset, f, "")
		for _, s := range strs() {
			reads(t, text(s), f, s)
		}
		for _, v := range strnums() {
			reads(t, v, f, v.S)
		}
	}
}

// 13.2: numbers that are whole and below 10^16 in size, or not finite, ask for no format.
func TestToTextOfWholeNumbers(t *testing.T) {
	formats := []string{conv, "", "x", "%.2f", "%c", "%s"}
	for f := range badFormats() {
		formats = append(formats, f)
	}
	for _, f := range formats {
		for x, want := range map[float64]string{0: "0", 1: "1", -1: "-1", 3: "3", 100000: "100000", 1e6: "1000000", -123456789: "-123456789", 1 << 53: "9007199254740992", 1e16 - 2: "9999999999999998", -1e16 + 2: "-9999999999999998", inf: "inf", -inf: "-inf"} {
			reads(t, number(x), f, want)
		}
		for _, x := range noNumbers() {
			reads(t, number(x), f, "nan")
		}
	}
}

// 13.2: other numbers are told by the format.
func TestToTextOfOtherNumbers(t *testing.T) {
	for _, c := range []struct {
		x       float64
		f, want string
	}{
		{0.1, conv, "0.1"}, {-0.1, conv, "-0.1"}, {3.14159265, conv, "3.14159"}, {3.14159265, "%.2f", "3.14"}, {3.7, "%d", "3"}, {-3.7, "%s", "-3"}, {0.5, "", ""}, {0.5, "x", "x"}, {66.5, "%c", "B"}, {0.5, "<%5.1f>", "<  0.5>"}, {0.25, "%d %d", "0 0"},
		{1e16, conv, "1e+16"}, {-1e16, conv, "-1e+16"}, {1e16, "%d", "10000000000000000"}, {1e300, conv, "1e+300"}, {123456.789, conv, "123457"}, {1e-300, conv, "1e-300"}, {0.1, "%.17g", "0.10000000000000001"}, {255.5, "%x", "ff"},
		{0.5, "%200.1f", many(" ", 197) + "0.5"}, {0.5, many("a", api.MaxText), many("a", api.MaxText)}, {0.5, many("%%", api.MaxText), many("%", api.MaxText)}, {0.5, "%200g" + many("a", api.MaxText-200), many(" ", 197) + "0.5" + many("a", api.MaxText-200)},
	} {
		reads(t, number(c.x), c.f, c.want)
	}
	for _, x := range floats() {
		for _, f := range []string{conv, "%.17g", "%f", "%e %%", "%d", "%5.1f|%s", "", "x"} {
			want, e := printf.Number(x, f)
			if s, d := value.ToText(number(x), f); s != want || d != e {
				t.Errorf("13.2: ToText(%v, %q): %q %d, want %q %d", x, f, s, d, want, e)
			}
		}
	}
}

// 13.2: a format's fault is told of a number that asks for it.
func TestToTextFaults(t *testing.T) {
	for f, e := range badFormats() {
		for _, x := range []float64{0.5, -0.5, smallest, 0.1, math.Nextafter(1, 2), 1e16, -1e16, 1e200} {
			faults(t, number(x), f, e)
		}
	}
	faults(t, number(greatest), "%d", api.FaultText)
	faults(t, number(-greatest), "%f", api.FaultText)
	faults(t, number(201.5), "%*d", api.FaultFormat)
	reads(t, number(199.5), "%*d", many(" ", 198)+"0")
}

// 13.2: what is true.
func TestTrue(t *testing.T) {
	counts(t, unset, false)
	for _, x := range floats() {
		counts(t, number(x), x != 0)
	}
	for _, v := range strnums() {
		counts(t, v, v.N != 0)
	}
	for _, s := range strs() {
		counts(t, text(s), s != "")
	}
	for _, s := range []string{"0", "0.0", " 0", "-0", "0e5", "1e-999"} {
		counts(t, text(s), true)
		counts(t, value.Outside(s), false)
		counts(t, value.Outside(s+"x"), true)
	}
	counts(t, value.Outside(""), false)
	counts(t, value.Outside(" "), true)
	counts(t, value.Outside("0.1"), true)
	counts(t, number(nan), true)
	counts(t, number(smallest), true)
}

// 13.2: a value as a text from outside is a StrNum of the same number, where the format tells all of its digits.
func TestAsATextAndBack(t *testing.T) {
	for _, x := range floats() {
		s, e := value.ToText(number(x), "%.17g")
		if e != api.OK {
			t.Errorf("13.2: ToText(%v): %d", x, e)
		}
		if v := value.Outside(s); x-x == 0 {
			made(t, "13.2", fmt.Sprint("Outside ", x), v, strnum(s, x))
		} else {
			made(t, "13.2", fmt.Sprint("Outside ", x), v, text(s))
		}
	}
}
