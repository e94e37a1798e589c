package split_test

import (
	"math"
	"slices"
	"strings"
	"testing"

	"tailrace/api"
	"tailrace/split"
)

// The chapter's examples.
func TestExamples(t *testing.T) {
	plays(t, 4, feed("ab"), next("\n", none), feed("c\nd"), next("\n", "abc"), next("\n", none), rest("\n", "d"), rest("\n", none))
	plays(t, 4, feed("abcdef;x"), next(";", "abcd"), held(0), rest(";", "x"))
	plays(t, 4, feed("\n\na\nb\n\n\nc\n"), next("", "a\nb"), next("", none), rest("", "c"))
}

// 7.1
func TestNew(t *testing.T) {
	for _, most := range []int{1, 2, 100, api.MaxRecord - 1, api.MaxRecord} {
		s := made(t, most)
		for _, rs := range []string{"\n", "", ";"} {
			held(0)(t, s)
			next(rs, none)(t, s)
			rest(rs, none)(t, s)
		}
		lays("\x00\x00\x00")(t, s)
	}
	for _, most := range []int{0, -1, math.MinInt, api.MaxRecord + 1, 1 << 20, math.MaxInt} {
		if s, e := split.New(most); s != nil || e != api.ErrArg {
			t.Errorf("New(%d): %v, %d", most, s, e)
		}
	}
}

// 7.1: what is fed stands behind what has not been looked at, and is not looked at till it is asked for.
func TestFeed(t *testing.T) {
	plays(t, 9,
		feed("a\nb"), held(0), lays("\x00\x00\x03a\nb"),
		feed(""), feed("c\nd"), held(0), lays("\x00\x00\x06a\nbc\nd"),
		next("\n", "a"), held(0), lays("\x00\x00\x04bc\nd"),
		feed("e\n"), lays("\x00\x00\x06bc\nde\n"),
		next("\n", "bc"), next("\n", "de"), next("\n", none), lays("\x00\x00\x00"),
	)
	s := made(t, 9)
	s.Feed(nil)
	lays("\x00\x00\x00")(t, s)
	next("\n", none)(t, s)
}

// 7.2: whatever byte rs has.
func TestSeparatorsOfOneByte(t *testing.T) {
	for i := range 256 {
		rs, other := string([]byte{byte(i)}), string([]byte{byte(i + 1)})
		plays(t, 4,
			feed(other+rs+rs+other+other), next(rs, other), next(rs, ""), next(rs, none), held(2),
			feed(rs), next(rs, other+other), rest(rs, none),
		)
	}
}

// 7.2: the others of rs count nothing.
func TestSeparatorsOfMoreBytes(t *testing.T) {
	for _, rs := range []string{";,", ";;", ";\n", "; ", ";a", ";b\x00", ";" + strings.Repeat("ab,", 99)} {
		plays(t, 9, feed("a;b,\n;"), next(rs, "a"), next(rs, "b,\n"), next(rs, none), rest(rs, none))
	}
	plays(t, 9, feed("a\nb\n\nc"), next("\n\n", "a"), next("\n\n", "b"), next("\n\n", ""), next("\n\n", none), rest("\n\n", "c"))
	plays(t, 9, feed("\xc3\xa9\xc3\xa9"), next("\u00e9", ""), next("\u00e9", "\xa9"), next("\u00e9", none), rest("\u00e9", "\xa9"))
}

// 7.2: rs may be another one at each call.
func TestSeparatorsThatTurn(t *testing.T) {
	plays(t, 9,
		feed("a;b,c\nd"), next(";", "a"), next(",", "b"), next(";", none), held(3),
		feed(";e"), next("\n", none), held(5), rest(",", "c\nd;e"), rest(",", none),
	)
	plays(t, 9, feed("a\n\nb;c"), next(";", "a\n\nb"), next("", none), rest("\n", "c"))
}

// 7.2: records without bytes, with a separator, are records.
func TestEmptyRecords(t *testing.T) {
	plays(t, 1, feed(";;"), next(";", ""), held(0), next(";", ""), next(";", none), rest(";", none))
	plays(t, 3, feed(";a;;b"), next(";", ""), next(";", "a"), next(";", ""), next(";", none), rest(";", "b"), rest(";", none))
	plays(t, 3, feed("\n"), rest("\n", ""), rest("\n", none))
}

// 7.2: a record has most bytes; what is more of it is passed over, but for the byte that ends it.
func TestRecordsOfMostBytesAndMore(t *testing.T) {
	for _, most := range []int{1, 2, 3, 4, 199, api.MaxRecord} {
		for more := -1; more < 5; more++ {
			record := strings.Repeat("abcdefg", 99)[:most+more]
			cut := record[:min(most, len(record))]
			plays(t, most, feed(record), next(";", none), held(len(cut)), feed(";"), next(";", cut), held(0), rest(";", none))
			plays(t, most, feed(record+";"+record+";x"), next(";", cut), next(";", cut), held(0), next(";", none), held(1), rest(";", "x"))
			if record == "" {
				continue
			}
			plays(t, most, feed(record+"\n\n\n"+record), next("", cut), next("", none), held(len(cut)), rest("", cut), rest("", none))
		}
	}
}

// 7.2: of bytes that are passed over, too, each is looked at.
func TestPassedOverInPieces(t *testing.T) {
	plays(t, 2,
		feed("abc"), next(";", none), held(2), lays("\x02ab\x01\x00"), feed("d"), next(";", none), held(2),
		feed("e;f"), next(";", "ab"), lays("\x00\x00\x01f"), next(";", none), held(1), lays("\x01f\x00\x00"),
	)
}

// R4 and 7.2: Next that finds nothing may be asked again and again.
func TestNextAgainAndAgain(t *testing.T) {
	for _, rs := range []string{"\n", ";", ""} {
		plays(t, 3, next(rs, none), feed("abcd"), next(rs, none), next(rs, none), held(3), next(rs, none), lays("\x03abc\x01\x00"), rest(rs, "abc"), next(rs, none))
	}
	plays(t, 3, feed("a\n"), next("", none), next("", none), held(1), lays("\x01a\x02\x00"), next("", none), feed("\n"), next("", "a"), next("", none))
}

// 7.1 and 7.5: many bytes that are fed ahead of being looked at, one by one and at once.
func TestManyBytes(t *testing.T) {
	text := strings.Repeat("tailrace;;follows;", 9000)
	one, many := made(t, 5), made(t, 5)
	many.Feed([]byte(text))
	for i := range len(text) {
		one.Feed([]byte{text[i]})
	}
	want := slices.Repeat([]string{"tailr", "", "follo"}, 9000)
	if l := drain(many, ";"); !slices.Equal(l, want) {
		t.Errorf("at once: %d records", len(l))
	}
	if l := drain(one, ";"); !slices.Equal(l, want) {
		t.Errorf("one by one: %d records", len(l))
	}
}
