package split_test

import (
	"testing"

	"tailrace/pack"
	"tailrace/split"
)

// R2: what is fed is its owner's at once, spare room included: turned afterwards it turns no record.
func TestFedIsItsOwners(t *testing.T) {
	const text = "ab\ncd\n\nef, and spare room"
	given := []byte(text)
	s := made(t, 9)
	s.Feed(given[:9])
	s.Feed(given[:0])
	s.Feed(given[:9])
	if string(given) != text {
		t.Fatalf("changed to %q", given)
	}
	for i := range given {
		given[i] = 'Q'
	}
	for _, do := range []step{next("", "ab\ncd"), next("\n", "efab"), feed("gh"), next("", "cd"), rest("", "efgh")} {
		do(t, s)
	}
	for i, x := range given {
		if x != 'Q' {
			t.Errorf("byte %d was changed to %q", i, x)
		}
	}
}

// R2: records stay as they were told, whatever comes behind them.
func TestRecordsStay(t *testing.T) {
	s := made(t, 9)
	feed("abc;def;ghi")(t, s)
	a, _ := s.Next(";")
	b, _ := s.Next(";")
	c, _ := s.Rest(";")
	feed("xxxxxxxxxxxx;yyyyyyy;zzz")(t, s)
	drainRest(s, ";")
	if a != "abc" || b != "def" || c != "ghi" {
		t.Errorf("%q, %q, %q", a, b, c)
	}
}

// R2 and R8: two splitters that are read of the same bytes share none, neither with one another nor with the bytes.
func TestReadSharesNothing(t *testing.T) {
	const text = "\x02ab\x00\x04c;de"
	given := []byte(text)
	x := split.Read(pack.NewReader(given), 9)
	y := split.Read(pack.NewReader(given), 9)
	for _, do := range []step{feed("f"), next(";", "abc"), feed("gggggg"), rest(";", "defgggggg")} {
		do(t, x)
	}
	if string(given) != text {
		t.Errorf("changed to %q", given)
	}
	for i := range given {
		given[i] = 'Q'
	}
	for _, do := range []step{lays(text), feed("h"), next(";", "abc"), rest(";", "deh")} {
		do(t, y)
	}
}

// R2: what is laid stays as it is when the splitter goes on.
func TestLaidStays(t *testing.T) {
	s := made(t, 9)
	feed("ab")(t, s)
	next(";", none)(t, s)
	feed("c;d")(t, s)
	w := pack.NewWriter()
	s.Lay(w)
	next(";", "abc")(t, s)
	feed("eeee")(t, s)
	next(";", none)(t, s)
	if b := string(w.Bytes()); b != "\x02ab\x00\x03c;d" {
		t.Errorf("%q", b)
	}
}
