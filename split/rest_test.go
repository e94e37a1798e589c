package split_test

import "testing"

// 7.3: first as Next: records that end come one by one, and what is behind them stays.
func TestRestIsNextFirst(t *testing.T) {
	plays(t, 9, feed("a;b;c"), rest(";", "a"), held(0), lays("\x00\x00\x03b;c"), rest(";", "b"), rest(";", "c"), rest(";", none))
	plays(t, 9, feed("a;"), rest(";", "a"), rest(";", none))
	plays(t, 9, feed(";"), rest(";", ""), rest(";", none))
	plays(t, 9, feed("a\n\nb\n\n\nc"), rest("", "a"), lays("\x00\x00\x05b\n\n\nc"), rest("", "b"), rest("", "c"), rest("", none))
	plays(t, 9, feed("a"), next(";", none), feed("b;c"), rest(";", "ab"), next(";", none), held(1), rest(";", "c"))
}

// 7.3: what is under way is told once; there is none under way then, and more may be fed.
func TestRestOfWhatIsUnderWay(t *testing.T) {
	for _, rs := range []string{"\n", ";", ""} {
		plays(t, 3,
			feed("ab"), next(rs, none), held(2), rest(rs, "ab"), held(0), lays("\x00\x00\x00"), rest(rs, none), rest(rs, none), next(rs, none),
			feed("cdef"), rest(rs, "cde"), held(0), lays("\x00\x00\x00"), rest(rs, none), rest(rs, none),
			feed("g"), rest(rs, "g"), rest(rs, none),
		)
	}
}

// 7.3: nothing but line feeds ahead of a record is nothing; with a separator they are records, or their bytes.
func TestRestOfLineFeeds(t *testing.T) {
	plays(t, 9, feed("\n\n"), rest("", none), held(0), rest("", none))
	plays(t, 9, feed("\n\n"), rest("\n", ""), rest("\n", ""), rest("\n", none))
	plays(t, 9, feed("\n\n"), rest(";", "\n\n"), rest(";", none))
}

// 7.3: by paragraphs a line feed that waits is not told, and waits no more; else it is the record's, or ends it.
func TestRestOfALineFeedThatWaits(t *testing.T) {
	plays(t, 9, feed("a\n"), next("", none), rest("", "a"), held(0), lays("\x00\x00\x00"), rest("", none), rest("\n", none))
	plays(t, 9, feed("a\n"), rest("", "a"), feed("b"), rest("", "b"))
	plays(t, 9, feed("a\n"), next("", none), rest("\n", "a"), lays("\x00\x00\x00"), rest("\n", none))
	plays(t, 9, feed("a\n"), next("", none), rest(";", "a\n"), lays("\x00\x00\x00"), rest(";", none))
	plays(t, 9, feed("a\n"), next("", none), feed("\nb"), rest("", "a"), rest("", "b"), rest("", none))
	plays(t, 9, feed("a\n"), next("", none), feed("b\n"), rest("", "a\nb"), rest("", none))
	plays(t, 2, feed("abc\n"), next("", none), lays("\x02ab\x03\x00"), rest("", "ab"), lays("\x00\x00\x00"), rest("", none))
	plays(t, 1, feed("a\n"), next("", none), rest(";", "a"), lays("\x00\x00\x00"), rest(";", none))
}

// 7.3: what was passed over is not told, and is forgotten with its record.
func TestRestOfWhatIsPassedOver(t *testing.T) {
	plays(t, 2, feed("abcd"), next(";", none), lays("\x02ab\x01\x00"), rest(";", "ab"), lays("\x00\x00\x00"), rest(";", none))
	plays(t, 2, feed("abcd"), rest("", "ab"), rest("", none), feed("ef"), rest("", "ef"), rest("", none))
}
