package value_test

import (
	"bytes"
	"testing"

	"tailrace/api"
	"tailrace/value"
)

// compares wants this of two values.
func compares(t *testing.T, a, b api.Val, want int) {
	t.Helper()
	comparesBy(t, a, b, conv, want)
}

// comparesBy wants it with a format.
func comparesBy(t *testing.T, a, b api.Val, f string, want int) {
	t.Helper()
	if n, e := value.Compare(a, b, f); n != want || e != api.OK {
		t.Errorf("13.2: Compare(%s, %s, %.40q): %d %d, want %d", short(a), short(b), f, n, e, want)
	}
}

// comparesFault wants this fault.
func comparesFault(t *testing.T, a, b api.Val, f string, want api.Errno) {
	t.Helper()
	if n, e := value.Compare(a, b, f); n != 0 || e != want {
		t.Errorf("13.2: Compare(%s, %s, %.40q): %d %d, want %d", short(a), short(b), f, n, e, want)
	}
}

// bothWays wants it of two values, and its opposite the other way round.
func bothWays(t *testing.T, a, b api.Val, want int) {
	t.Helper()
	compares(t, a, b, want)
	compares(t, b, a, -want)
}

// 13.2: Unset against each kind: as 0, against a Str as the empty text.
func TestCompareUnset(t *testing.T) {
	compares(t, unset, unset, 0)
	bothWays(t, unset, number(0), 0)
	bothWays(t, unset, number(1), -1)
	bothWays(t, unset, number(-0.5), 1)
	bothWays(t, unset, number(inf), -1)
	bothWays(t, unset, strnum("0", 0), 0)
	bothWays(t, unset, strnum(" 0.0", 0), 0)
	bothWays(t, unset, strnum("-3", -3), 1)
	bothWays(t, unset, strnum("7", 7), -1)
	bothWays(t, unset, text(""), 0)
	bothWays(t, unset, text("0"), -1)
	bothWays(t, unset, text("-1"), -1)
	bothWays(t, unset, text("\x00"), -1)
}

// 13.2: numbers, and texts that look like some.
func TestCompareAsNumbers(t *testing.T) {
	for _, c := range []struct {
		a, b float64
		want int
	}{{10, 9, 1}, {9, 10, -1}, {3, 3, 0}, {-2, -10, 1}, {0.1, 0.1, 0}, {0.1, 0.10000000000000002, -1}, {100, 1e2, 0}, {inf, greatest, 1}, {inf, inf, 0}, {-inf, -inf, 0}, {-inf, inf, -1}, {0, smallest, -1}} {
		bothWays(t, number(c.a), number(c.b), c.want)
	}
	bothWays(t, strnum("10", 10), number(9), 1)
	bothWays(t, strnum("10", 10), strnum("9", 9), 1)
	bothWays(t, strnum("1.0", 1), number(1), 0)
	bothWays(t, strnum("1.0", 1), strnum(" +1 ", 1), 0)
	bothWays(t, strnum("1e999", inf), number(inf), 0)
	bothWays(t, strnum("-0", 0), number(0), 0)
	bothWays(t, strnum("0.5", 0.5), number(0.25), 1)
}

// 13.2: where one is no number: 1, whatever the other one is, itself too.
func TestCompareNoNumbers(t *testing.T) {
	for _, x := range noNumbers() {
		for _, y := range append(noNumbers(), 0, 1, -1, inf, -inf) {
			compares(t, number(x), number(y), 1)
			compares(t, number(y), number(x), 1)
		}
		for _, v := range append(strnums(), unset) {
			compares(t, number(x), v, 1)
			compares(t, v, number(x), 1)
		}
		// As texts they are nan.
		bothWays(t, number(x), text("nan"), 0)
		bothWays(t, number(x), text("na"), 1)
		bothWays(t, number(x), text("nao"), -1)
		bothWays(t, number(x), text(""), 1)
	}
}

// 13.2: as texts, where one is a Str, though both look like numbers.
func TestCompareAsTexts(t *testing.T) {
	bothWays(t, text("10"), number(9), -1)
	bothWays(t, text("10"), strnum("9", 9), -1)
	bothWays(t, text("10"), text("9"), -1)
	bothWays(t, text("10"), strnum("10", 10), 0)
	bothWays(t, text("10"), strnum(" 10", 10), 1)
	bothWays(t, text("1"), strnum("1.0", 1), -1)
	bothWays(t, text("1.0"), number(1), 1)
	bothWays(t, text("1"), number(1), 0)
	bothWays(t, text("0.1"), number(0.1), 0)
	bothWays(t, text("1e+16"), number(1e16), 0)
	bothWays(t, text("inf"), number(inf), 0)
	bothWays(t, text("-inf"), number(-inf), 0)
	bothWays(t, text("a"), number(5), 1)
	bothWays(t, text(""), number(0), -1)
	bothWays(t, text(""), strnum("0", 0), -1)
	comparesBy(t, number(3.14159), text("3.14"), "%.2f", 0)
	comparesBy(t, text("3.1"), number(3.14159), "%.2f", -1)
	comparesBy(t, text("x"), number(0.5), "x", 0)
	comparesBy(t, number(0.5), text(""), "", 0)
	comparesBy(t, number(5), text("5"), "x", 0)
}

// 13.2: bytes of texts, above 127 too; the beginning of a text is less.
func TestCompareBytes(t *testing.T) {
	row := []string{"", "\x00", "\x00\x00", "\x00a", "\x01", "\n", " ", "!", "0", "00", "1", "9", "A", "B", "a", "a\x00", "a ", "aB", "aa", "aaa", "ab", "a\x7f", "a\x80", "a\xff", "a\xff\x00", "b", "\x7f", "\x80", "\xc3", "\xc3\xa9", "\xe2\x82\xac", "\xef\xbf\xbd", "\xff", "\xff\x00", "\xff\xff"}
	for i, s := range row {
		for j, u := range row {
			want := 0
			if i < j {
				want = -1
			} else if i > j {
				want = 1
			}
			compares(t, text(s), text(u), want)
		}
	}
	long := many("a", api.MaxText-1)
	bothWays(t, text(long), text(long+"a"), -1)
	bothWays(t, text(long+"a"), text(long+"b"), -1)
	bothWays(t, text(long+"\x80"), text(long+"\x7f"), 1)
	bothWays(t, text(long+"x"), text(long+"x"), 0)
}

// 13.2: each pair of bytes.
func TestCompareEachByte(t *testing.T) {
	for a := range 256 {
		for b := range 256 {
			x, y := []byte{'k', byte(a)}, []byte{'k', byte(b)}
			compares(t, text(string(x)), text(string(y)), bytes.Compare(x, y))
		}
	}
}

// 13.2: the fault of a number's text, on either side; where no text is asked for, or it asks for no format, there is none.
func TestCompareFaults(t *testing.T) {
	for f, e := range badFormats() {
		for _, s := range []string{"", "a", "0.5", "1"} {
			for _, x := range []float64{0.5, -0.5, 1e16, smallest} {
				comparesFault(t, number(x), text(s), f, e)
				comparesFault(t, text(s), number(x), f, e)
			}
			comparesBy(t, text(s), text(s), f, 0)
			comparesBy(t, text(s), strnum("0.50", 0.5), f, bytes.Compare([]byte(s), []byte("0.50")))
			comparesBy(t, text(s), number(1), f, bytes.Compare([]byte(s), []byte("1")))
			comparesBy(t, number(inf), text(s), f, bytes.Compare([]byte("inf"), []byte(s)))
			comparesBy(t, unset, text(s), f, bytes.Compare(nil, []byte(s)))
		}
		comparesBy(t, number(0.5), number(0.25), f, 1)
		comparesBy(t, number(0.5), unset, f, 1)
		comparesBy(t, strnum("0.5", 0.5), number(0.5), f, 0)
		comparesBy(t, strnum("0.5", 0.5), number(nan), f, 1)
	}
}
