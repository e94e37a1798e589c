package split_test

import "testing"

// 7.2: line feeds ahead of a record, between two, and behind the last one.
func TestParagraphs(t *testing.T) {
	plays(t, 9, feed("a\n\nb\n\n"), next("", "a"), next("", "b"), next("", none), rest("", none))
	plays(t, 9, feed("\n\n\n"), next("", none), held(0), lays("\x00\x00\x00"), rest("", none))
	plays(t, 9, feed("\n\n\n\na"), next("", none), held(1), rest("", "a"), rest("", none))
	plays(t, 9, feed("a\n\n\n\n\nb"), next("", "a"), held(0), next("", none), held(1), rest("", "b"))
	plays(t, 9, feed("a\n\n\n\n"), next("", "a"), next("", none), held(0), rest("", none))
	plays(t, 9, feed("a\nb\nc\n\nd"), next("", "a\nb\nc"), rest("", "d"))
	plays(t, 9, feed(" \n\t\n\n\r\n"), next("", " \n\t"), next("", none), rest("", "\r"))
	plays(t, 9, next("", none), rest("", none), feed(""), next("", none), rest("", none))
}

// 7.2: a line feed that waits is the record's when another byte comes, and ends it when a line feed does.
func TestLineFeedThatWaits(t *testing.T) {
	plays(t, 9,
		feed("a\n"), next("", none), held(1), lays("\x01a\x02\x00"), feed("b"), held(1), lays("\x01a\x02\x01b"),
		next("", none), held(3), lays("\x03a\nb\x00\x00"), feed("\n"), next("", none), held(3), lays("\x03a\nb\x02\x00"),
		feed("\nc"), next("", "a\nb"), held(0), lays("\x00\x00\x01c"),
	)
	plays(t, 9, feed("a\n"), next("", none), feed(""), next("", none), held(1), feed("\n"), next("", "a"), lays("\x00\x00\x00"))
	plays(t, 9, feed("a\n"), next("", none), feed("\n\n\n"), next("", "a"), lays("\x00\x00\x02\n\n"), next("", none), rest("", none))
}

// 7.2: a line feed that waits needs room like any byte when it is the record's; while it waits it needs none.
func TestLineFeedThatWaitsWithoutRoom(t *testing.T) {
	plays(t, 1, feed("a\n"), next("", none), held(1), lays("\x01a\x02\x00"), feed("\n"), next("", "a"))
	plays(t, 1, feed("a\nb"), next("", none), held(1), lays("\x01a\x01\x00"), feed("\n\n"), next("", "a"), lays("\x00\x00\x00"))
	plays(t, 2, feed("a\nb"), next("", none), held(2), lays("\x02a\n\x01\x00"), rest("", "a\n"))
	plays(t, 3, feed("a\nb"), next("", none), held(3), lays("\x03a\nb\x00\x00"), rest("", "a\nb"))
	plays(t, 2, feed("abc\n"), next("", none), held(2), lays("\x02ab\x03\x00"), feed("d\n\ne"), next("", "ab"), rest("", "e"))
	plays(t, 2, feed("ab\n"), next("", none), lays("\x02ab\x02\x00"), feed("\n\n"), next("", "ab"), next("", none), rest("", none))
}

// 7.2: where rs is not empty, a line feed that waits is looked at first, as a byte that comes, even where no other one does.
func TestLineFeedThatWaitsBySeparator(t *testing.T) {
	plays(t, 9, feed("a\n"), next("", none), next("\n", "a"), held(0), lays("\x00\x00\x00"), next("\n", none), rest("\n", none))
	plays(t, 9, feed("a\n"), next("", none), feed("b\n"), next("\n", "a"), lays("\x00\x00\x02b\n"), next("\n", "b"), next("\n", none))
	plays(t, 9, feed("a\n"), next("", none), next(";", none), held(2), lays("\x02a\n\x00\x00"), rest(";", "a\n"))
	plays(t, 9, feed("a\n"), next("", none), feed(";b"), next(";", "a\n"), next(";", none), rest(";", "b"))
	plays(t, 9, feed("a\n"), next("", none), next("\n;", "a"), next("\n;", none))
	plays(t, 1, feed("a\n"), next("", none), next(";", none), held(1), lays("\x01a\x01\x00"), feed(";"), next(";", "a"))
	// It is the record's by then, so that another line feed waits, and does not end it.
	plays(t, 9, feed("a\n"), next("", none), next(";", none), feed("\n"), next("", none), held(2), lays("\x02a\n\x02\x00"), feed("\n"), next("", "a\n"))
}

// 7.2 and 7.3: behind a record that another separator ended no line feed waits.
func TestNoLineFeedWaitsBehindARecord(t *testing.T) {
	plays(t, 9, feed("a\n"), next("", none), feed("\nb\n\n"), next("\n", "a"), next("", "b"), next("", none), rest("", none))
	plays(t, 9, feed("a\n"), rest("", "a"), lays("\x00\x00\x00"), feed("\n"), next("", none), held(0), rest("", none))
	plays(t, 9, feed("a\n"), rest("", "a"), next("\n", none), rest("\n", none))
}
