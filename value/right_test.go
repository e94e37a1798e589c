package value_test

import (
	"fmt"
	"testing"

	"tailrace/api"
	"tailrace/value"
)

// The chapter's examples.
func TestExamples(t *testing.T) {
	made(t, "13.1", "Outside( 10 )", value.Outside(" 10 "), strnum(" 10 ", 10))
	made(t, "13.1", "Outside(10x)", value.Outside("10x"), text("10x"))
	numbers(t, text("10x"), 10)
	compares(t, strnum("10", 10), number(9), 1)
	compares(t, text("10"), number(9), -1)
	stops(t, "/", number(1), number(0))
	reckons(t, "^", number(2), number(10), 1024)
	counts(t, value.Outside("0"), false)
	counts(t, text("0"), true)
}

// 13.1: values of each kind.
func TestRight(t *testing.T) {
	for _, v := range rights() {
		if !value.Right(v) {
			t.Errorf("13.1: Right(%s): false", short(v))
		}
	}
}

// 13.1: what is wrong in one field alone.
func TestNotRight(t *testing.T) {
	for _, v := range wrongs() {
		if value.Right(v) {
			t.Errorf("13.1: Right(%s): true", short(v))
		}
	}
}

// 13.1: the fields of values of each kind, under each other kind and one that there is not.
func TestRightUnderAnotherKind(t *testing.T) {
	for _, v := range rights() {
		for kind := -2; kind <= 6; kind++ {
			w := v
			w.Kind = kind
			if value.Right(w) != plainRight(w) {
				t.Errorf("13.1: Right(%s): %v", short(w), !plainRight(w))
			}
		}
	}
}

// 13.1: a text has at most MaxText bytes, whatever they are.
func TestRightAsFarAsTextsGo(t *testing.T) {
	for _, s := range []string{"a", "7", " ", "\x00", "\xff"} {
		for n := api.MaxText - 3; n <= api.MaxText+3; n++ {
			if v := text(many(s, n)); value.Right(v) != (n <= api.MaxText) {
				t.Errorf("13.1: Right(%s): %v", short(v), n > api.MaxText)
			}
		}
	}
	for n := api.MaxText - 3; n <= api.MaxText+3; n++ {
		for _, v := range []api.Val{strnum(many("0", n-1)+"7", 7), strnum(many(" ", n-1)+"7", 7), strnum("7"+many(" ", n-1), 7)} {
			if value.Right(v) != (n <= api.MaxText) {
				t.Errorf("13.1: Right(%s): %v", short(v), n > api.MaxText)
			}
		}
	}
}

// 13.1: a call that is given what is not right answers as of Unset, on either side.
func TestWrongIsTakenForUnset(t *testing.T) {
	others := append(rights(), wrongs()...)
	for _, v := range wrongs() {
		numbers(t, v, 0)
		reads(t, v, conv, "")
		reads(t, v, "%q", "")
		counts(t, v, false)
		if b := laid(v); string(b) != "\x00" {
			t.Errorf("13.1: Lay(%s): % x", short(v), b)
		}
		for _, w := range others {
			takenForUnset(t, v, w)
		}
	}
}

// takenForUnset wants Compare and Arith of v and another one to answer as if v were Unset.
func takenForUnset(t *testing.T, v, w api.Val) {
	t.Helper()
	for _, f := range []string{conv, "%q"} {
		n, e := value.Compare(v, w, f)
		m, d := value.Compare(unset, w, f)
		if n != m || e != d {
			t.Errorf("13.1: Compare(%s, %s, %s): %d %d, of Unset %d %d", short(v), short(w), f, n, e, m, d)
		}
		n, e = value.Compare(w, v, f)
		m, d = value.Compare(w, unset, f)
		if n != m || e != d {
			t.Errorf("13.1: Compare(%s, %s, %s): %d %d, of Unset %d %d", short(w), short(v), f, n, e, m, d)
		}
	}
	for _, op := range []string{"+", "-", "*", "/", "%", "^", "x"} {
		x, e := value.Arith(op, v, w)
		y, d := value.Arith(op, unset, w)
		if !is(x, y) || e != d {
			t.Errorf("13.1: Arith(%s, %s, %s): %s %d, of Unset %s %d", op, short(v), short(w), short(x), e, short(y), d)
		}
		x, e = value.Arith(op, w, v)
		y, d = value.Arith(op, w, unset)
		if !is(x, y) || e != d {
			t.Errorf("13.1: Arith(%s, %s, %s): %s %d, of Unset %s %d", op, short(w), short(v), short(x), e, short(y), d)
		}
	}
}

// 13.1: a number of a float, 0 of -0.
func TestFromNum(t *testing.T) {
	for _, x := range floats() {
		made(t, "13.1", fmt.Sprint("FromNum ", x), value.FromNum(x), number(x))
	}
	made(t, "13.1", "FromNum(-0)", value.FromNum(minus), number(0))
}

// 13.1: a Str of a text, whether it looks like a number or not.
func TestFromText(t *testing.T) {
	for _, s := range strs() {
		made(t, "13.1", "FromText", value.FromText(s), text(s))
	}
	for _, v := range strnums() {
		made(t, "13.1", "FromText", value.FromText(v.S), text(v.S))
	}
}

// 13.1: a StrNum of a text that looks like a number, a Str of others.
func TestOutside(t *testing.T) {
	for _, v := range strnums() {
		made(t, "13.1", "Outside", value.Outside(v.S), v)
	}
	for _, s := range []string{
		"", "a", "10x", "x10", "1 1", " ", blanks, "-", "+", ".", "e", "e1", ".e1", "1e", "1e+", "--1", "+-1", "1..", "1.2.3", "0x10", "1_0", "inf", "-inf", "+inf", "nan", "+nan", "Infinity", "1f", "\x001", "1\x00", "\u00a01", "1\x85", "1\xa0", "1\x1c",
	} {
		made(t, "13.1", "Outside", value.Outside(s), text(s))
		made(t, "13.1", "Outside", value.Outside(s+" x"), text(s+" x"))
	}
	for i := range len(blanks) {
		s := blanks[i : i+1]
		made(t, "13.1", "Outside", value.Outside(s+"5"), strnum(s+"5", 5))
		made(t, "13.1", "Outside", value.Outside("5"+s), strnum("5"+s, 5))
		made(t, "13.1", "Outside", value.Outside("5"+s+"5"), text("5"+s+"5"))
	}
}

// 13.1: of a long text the first MaxText bytes, whatever is behind them.
func TestLongTextsAreCut(t *testing.T) {
	for _, s := range []string{many("a", api.MaxText), many("\xff", api.MaxText), many("ab", api.MaxText/2), many("\u00e9", api.MaxText/2), "x" + many("\u00e9", api.MaxText/2-1) + "\xc3"} {
		for _, behind := range []string{"", "a", "b", "1", "\xa9", "\x00", many("c", api.MaxText), many(" ", 1<<20)} {
			made(t, "13.1", "FromText", value.FromText(s+behind), text(s))
			made(t, "13.1", "Outside", value.Outside(s+behind), text(s))
		}
	}
	for n := api.MaxText - 2; n <= api.MaxText; n++ {
		made(t, "13.1", "FromText", value.FromText(many("7", n)), text(many("7", n)))
		made(t, "13.1", "Outside", value.Outside(many("0", n)), strnum(many("0", n), 0))
	}
}

// 13.1: the first MaxText bytes look like a number, the whole does not.
func TestBeginningLooksLikeANumber(t *testing.T) {
	for _, v := range []api.Val{
		strnum(many("0", api.MaxText-1)+"5", 5), strnum(many(" ", api.MaxText-2)+"12", 12), strnum("3"+many(" ", api.MaxText-1), 3), strnum(many("0", api.MaxText-3)+"1.5", 1.5), strnum(many("0", api.MaxText-4)+"5e10", 5e10), strnum(many("0", api.MaxText-2)+"4.", 4),
	} {
		for _, behind := range []string{"x", " x", "\x00", ".5x", "e", "-", "1..", " 1", "\xff" + many("1", 1<<16)} {
			made(t, "13.1", "Outside", value.Outside(v.S+behind), v)
			made(t, "13.1", "FromText", value.FromText(v.S+behind), text(v.S))
		}
	}
	// Cut off, it is another number.
	made(t, "13.1", "Outside", value.Outside(many(" ", api.MaxText-1)+"12"), strnum(many(" ", api.MaxText-1)+"1", 1))
	made(t, "13.1", "Outside", value.Outside("1."+many("0", api.MaxText-2)+"e5"), strnum("1."+many("0", api.MaxText-2), 1))
	made(t, "13.1", "Outside", value.Outside(many("0", api.MaxText)+"1"), strnum(many("0", api.MaxText), 0))
	made(t, "13.1", "Outside", value.Outside("-"+many("0", api.MaxText-1)+"1"), strnum("-"+many("0", api.MaxText-1), 0))
}

// 13.1: the whole looks like a number, its first MaxText bytes do not.
func TestBeginningDoesNotLookLikeANumber(t *testing.T) {
	for _, s := range []string{many(" ", api.MaxText), many("0", api.MaxText-1) + "e", many("0", api.MaxText-2) + "e+", many("0", api.MaxText-2) + "e-", many(" ", api.MaxText-1) + "-", many(" ", api.MaxText-1) + ".", many("\n", api.MaxText-2) + "+."} {
		for _, behind := range []string{"5", "5 ", "5" + many("0", 100), "5" + many(" ", 1<<16)} {
			made(t, "13.1", "Outside", value.Outside(s+behind), text(s))
			made(t, "13.1", "FromText", value.FromText(s+behind), text(s))
		}
	}
}
