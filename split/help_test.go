package split_test

import (
	"testing"

	"tailrace/api"
	"tailrace/pack"
	"tailrace/split"
)

// none is what a call wants that ought to tell false.
const none = "no record"

// step is one call, and what it must tell.
type step func(t testing.TB, s *split.Splitter)

// feed feeds bytes, and writes over them and their spare room afterwards.
func feed(b string) step {
	return func(t testing.TB, s *split.Splitter) {
		t.Helper()
		const spare = "spare room"
		given := []byte(b + spare)
		s.Feed(given[:len(b)])
		if string(given) != b+spare {
			t.Errorf("Feed(%q): what was handed in is %q", b, given)
		}
		for i := range given {
			given[i] = 'Q'
		}
	}
}

func next(rs, want string) step {
	return func(t testing.TB, s *split.Splitter) {
		t.Helper()
		record, ok := s.Next(rs)
		wanted(t, "Next", rs, record, ok, want)
	}
}

func rest(rs, want string) step {
	return func(t testing.TB, s *split.Splitter) {
		t.Helper()
		record, ok := s.Rest(rs)
		wanted(t, "Rest", rs, record, ok, want)
	}
}

func held(want int) step {
	return func(t testing.TB, s *split.Splitter) {
		t.Helper()
		if n := s.Held(); n != want {
			t.Errorf("Held: %d, want %d", n, want)
		}
	}
}

// lays wants what a splitter lays.
func lays(want string) step {
	return func(t testing.TB, s *split.Splitter) {
		t.Helper()
		if b := laid(s); b != want {
			t.Errorf("Lay: %q, want %q", b, want)
		}
	}
}

func wanted(t testing.TB, call, rs, record string, ok bool, want string) {
	t.Helper()
	if want == none && (ok || record != "") || want != none && (!ok || record != want) {
		t.Errorf("%s(%q): %q, %v, want %q", call, rs, record, ok, want)
	}
}

func made(t testing.TB, most int) *split.Splitter {
	t.Helper()
	s, e := split.New(most)
	if s == nil || e != api.OK {
		t.Fatalf("New(%d): %d", most, e)
	}
	return s
}

func laid(s *split.Splitter) string {
	w := pack.NewWriter()
	s.Lay(w)
	return string(w.Bytes())
}

// from reads a splitter, of which nothing may be wrong.
func from(t testing.TB, b string, most int) *split.Splitter {
	t.Helper()
	r := pack.NewReader([]byte(b))
	s := split.Read(r, most)
	if s == nil || r.End() != api.OK {
		t.Fatalf("Read of %q, most %d: %d", b, most, r.End())
	}
	return s
}

// plays does the steps with a new splitter; then again, where it is laid and read ahead of each of them.
func plays(t testing.TB, most int, steps ...step) {
	t.Helper()
	playsFrom(t, "\x00\x00\x00", most, steps...)
}

// playsFrom does likewise, with a splitter that is read from bytes at first.
func playsFrom(t testing.TB, b string, most int, steps ...step) {
	t.Helper()
	s := from(t, b, most)
	for _, do := range steps {
		do(t, s)
	}
	s = from(t, b, most)
	for _, do := range steps {
		s = from(t, laid(s), most)
		do(t, s)
	}
}

// drain tells all records that end.
func drain(s *split.Splitter, rs string) []string {
	return all(s.Next, rs)
}

// drainRest tells all records that are left, when nothing more will come.
func drainRest(s *split.Splitter, rs string) []string {
	return all(s.Rest, rs)
}

func all(call func(rs string) (string, bool), rs string) []string {
	var l []string
	for {
		record, ok := call(rs)
		if !ok {
			return l
		}
		l = append(l, record)
	}
}
