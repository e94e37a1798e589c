package split_test

import (
	"math"
	"strings"
	"testing"

	"tailrace/api"
	"tailrace/pack"
	"tailrace/split"
)

// 7.4: the record under way, what holds of it, and what has not been looked at; nothing is turned by it.
func TestLay(t *testing.T) {
	for _, c := range []struct {
		feed, rs, behind string
		want             string
	}{
		{"", "\n", "", "\x00\x00\x00"},
		{"", "", "ab", "\x00\x00\x02ab"},
		{"ab", "\n", "", "\x02ab\x00\x00"},
		{"abcd", "\n", "", "\x04abcd\x00\x00"},
		{"abcde", "\n", "", "\x04abcd\x01\x00"},
		{"abcdef", "\n", "gh", "\x04abcd\x01\x02gh"},
		{"a\n", "", "", "\x01a\x02\x00"},
		{"a\n", "", "\nb", "\x01a\x02\x02\nb"},
		{"abcd\n", "", "", "\x04abcd\x02\x00"},
		{"abcde\n", "", "\n", "\x04abcd\x03\x01\n"},
		{"a\nb", "", "", "\x03a\nb\x00\x00"},
		{"a\n", ";", "", "\x02a\n\x00\x00"},
		{"a;b;c", ";", "", "\x00\x00\x03b;c"},
		{"a;", ";", "", "\x00\x00\x00"},
		{"abcdef;", ";", "", "\x00\x00\x00"},
		{"\x00\xff", ";", "\xff\x00", "\x02\x00\xff\x00\x02\xff\x00"},
	} {
		s := made(t, 4)
		s.Feed([]byte(c.feed))
		s.Next(c.rs)
		s.Feed([]byte(c.behind))
		held := s.Held()
		for range 3 {
			if b := laid(s); b != c.want || s.Held() != held {
				t.Errorf("%q, then %q: %q, want %q", c.feed, c.behind, b, c.want)
			}
		}
		if x := from(t, c.want, 4); laid(x) != c.want || x.Held() != held {
			t.Errorf("%q is read, and laid as %q", c.want, laid(x))
		}
	}
}

// 7.4: it is laid behind what is there, and no more is read: what is behind it is left, whatever it is.
func TestLaidAmongOthers(t *testing.T) {
	states := []string{"\x00\x00\x00", "\x02ab\x01\x00", "\x01a\x02\x00", "\x00\x00\x03b;c", "\x01a\x03\x02cd", "\x01a\x00\x00"}
	for _, behind := range []string{"", "\x00", "\x00\x00", "\x00\x00\x00\x00\x00\x00\x00\x00\x00", "\x01", "\x80", "\x80\x00", "\xff\xff"} {
		for _, one := range states {
			for _, other := range states {
				w := pack.NewWriter()
				w.Num(300)
				from(t, one, 4).Lay(w)
				from(t, other, 4).Lay(w)
				b := string(w.Bytes()) + behind
				if b != "\xac\x02"+one+other+behind {
					t.Fatalf("%q and %q: %q", one, other, b)
				}
				r := pack.NewReader([]byte(b))
				r.Num(300)
				x, y := split.Read(r, 4), split.Read(r, 4)
				if laid(x) != one || laid(y) != other {
					t.Errorf("of %q: %q and %q", b, laid(x), laid(y))
				}
				for range len(behind) {
					r.Byte(255)
				}
				if e := r.End(); e != api.OK {
					t.Errorf("of %q: %d", b, e)
				}
			}
		}
	}
}

// 7.4: of a most that may not be there is nothing, and nothing is read.
func TestReadOfWrongMost(t *testing.T) {
	for _, most := range []int{0, -1, math.MinInt, api.MaxRecord + 1, math.MaxInt} {
		r := pack.NewReader([]byte("\x01a\x02\x01b"))
		if s := split.Read(r, most); s != nil {
			t.Errorf("most %d: %v", most, s)
		}
		lays("\x01a\x02\x01b")(t, split.Read(r, 1))
		if e := r.End(); e != api.OK {
			t.Errorf("most %d: %d", most, e)
		}
		if s := split.Read(pack.NewReader(nil), most); s != nil {
			t.Errorf("most %d, of nothing: %v", most, s)
		}
	}
}

// 7.4: records and bytes ahead up to their bounds, and above.
func TestReadUpToTheBounds(t *testing.T) {
	for _, most := range []int{1, 2, 127, 128, api.MaxRecord} {
		for _, n := range []int{0, 1, most - 1, most, most + 1, 2 * most} {
			for _, ahead := range []int{0, 1, 2047, 2048, 2049, 5000} {
				w := pack.NewWriter()
				w.Text(strings.Repeat("r", n))
				w.Byte(3)
				w.Text(strings.Repeat("a", ahead))
				r := pack.NewReader(w.Bytes())
				s := split.Read(r, most)
				want, e := string(w.Bytes()), api.OK
				if n > most || ahead > 2048 {
					want, e = "\x00\x00\x00", api.ErrLong
				}
				if b := laid(s); b != want || r.End() != e {
					t.Errorf("most %d, %d and %d bytes: %d, %d bytes are laid", most, n, ahead, r.End(), len(b))
				}
			}
		}
	}
}

// 7.4: a splitter lays all that has not been looked at, though more than MaxBatch times 4 is not read.
func TestLayOfManyBytes(t *testing.T) {
	for n, e := range map[int]api.Errno{2048: api.OK, 2049: api.ErrLong} {
		s := made(t, 4)
		text := strings.Repeat("x", n)
		feed(text)(t, s)
		w := pack.NewWriter()
		w.Text("")
		w.Byte(0)
		w.Text(text)
		lays(string(w.Bytes()))(t, s)
		r := pack.NewReader(w.Bytes())
		if split.Read(r, 4); r.End() != e {
			t.Errorf("%d bytes: %d", n, r.End())
		}
	}
}

// wrongBytes are of no splitter of most 4, with what the Reader finds.
var wrongBytes = []struct {
	b string
	e api.Errno
}{
	{"", api.ErrShort},
	{"\x00", api.ErrShort},
	{"\x00\x00", api.ErrShort},
	{"\x02a", api.ErrShort},
	{"\x02ab", api.ErrShort},
	{"\x02ab\x03", api.ErrShort},
	{"\x02ab\x03\x02c", api.ErrShort},
	{"\x02ab\x02\x80", api.ErrShort},
	{"\x80", api.ErrShort},
	{"\x05abcde\x00\x00", api.ErrLong},
	{"\x05", api.ErrLong},
	{"\xff\xff\x01\x00\x00", api.ErrLong},
	{"\x00\x04\x00", api.ErrLong},
	{"\x02ab\x04\x00", api.ErrLong},
	{"\x02ab\x04", api.ErrLong},
	{"\x02ab\xff\x01c", api.ErrLong},
	{"\x02ab\x01\x81\x10", api.ErrLong},
	{"\x00\x02\x81\x10", api.ErrLong},
	{"\x82\x00ab\x00\x00", api.ErrForm},
	{"\x80\x00\x00\x00", api.ErrForm},
	{"\x00\x02\x80\x00", api.ErrForm},
	{"\x02ab\x03\x80\x00", api.ErrForm},
	{"\x02ab\x03\x81\x00c", api.ErrForm},
	{"\x02ab\x03\xff\xff\xff\xff\xff\xff\xff\xff\xff\x02", api.ErrForm},
}

// 7.4: what the Reader finds wrong is left to its End: without bytes, as a new one, it goes on.
func TestReadOfWrongBytes(t *testing.T) {
	for _, c := range wrongBytes {
		for _, behind := range []string{"", "\x00", "ab", "\x00\x00\x00\x00", "\x80\x00"} {
			if c.e == api.ErrShort && behind != "" {
				continue
			}
			r := pack.NewReader([]byte(c.b + behind))
			s := split.Read(r, 4)
			if s == nil || r.End() != c.e {
				t.Fatalf("of %q: %v, %d, want %d", c.b+behind, s, r.End(), c.e)
			}
			if b := laid(s); b != "\x00\x00\x00" {
				t.Errorf("of %q: it lays %q", c.b+behind, b)
			}
			for _, do := range []step{held(0), next("\n", none), rest("", none), feed("\n\nab\n\nabcde"), next("", "ab"), rest("", "abcd"), rest("", none)} {
				do(t, s)
			}
		}
	}
}

// 7.4: cut off anywhere it is the Reader's ErrShort, and there are no bytes.
func TestReadCutOff(t *testing.T) {
	w := pack.NewWriter()
	s := made(t, api.MaxRecord)
	feed(strings.Repeat("ab", 150)+"\n")(t, s)
	next("", none)(t, s)
	feed(strings.Repeat("cd\n", 300))(t, s)
	s.Lay(w)
	whole := w.Bytes()
	for k := range whole {
		r := pack.NewReader(whole[:k])
		x := split.Read(r, api.MaxRecord)
		if r.End() != api.ErrShort || laid(x) != "\x00\x00\x00" {
			t.Errorf("cut at %d: %d, it lays %q", k, r.End(), laid(x))
		}
	}
	lays(string(whole))(t, from(t, string(whole), api.MaxRecord))
}

// 7.4: of a Reader that found something wrong before nothing is read, however whole what is left is.
func TestReadBehindAFault(t *testing.T) {
	for ahead, e := range map[string]api.Errno{"\x0a": api.ErrLong, "\x80\x00": api.ErrForm} {
		r := pack.NewReader([]byte(ahead + "\x02ab\x03\x01c"))
		r.Num(9)
		s := split.Read(r, 4)
		if s == nil || r.End() != e || laid(s) != "\x00\x00\x00" {
			t.Errorf("behind %q: %d", ahead, r.End())
		}
	}
	r := pack.NewReader([]byte("\x02ab\x03\x01c\x01a\x00"))
	x, y, z := split.Read(r, 4), split.Read(r, 4), split.Read(r, 4)
	if laid(x) != "\x02ab\x03\x01c" || laid(y) != "\x00\x00\x00" || laid(z) != "\x00\x00\x00" || r.End() != api.ErrShort {
		t.Errorf("%q, %q, %q, %d", laid(x), laid(y), laid(z), r.End())
	}
}

// 7.4: what no splitter laid is one all the same: it passed over bytes, or a line feed waits, though its record has none.
func TestReadOfWhatNoSplitterLaid(t *testing.T) {
	playsFrom(t, "\x00\x01\x00", 2, held(0), next(";", none), lays("\x00\x01\x00"), rest(";", ""), lays("\x00\x00\x00"), rest(";", none))
	playsFrom(t, "\x00\x01\x00", 2, feed("\n\n"), next("", none), lays("\x00\x01\x00"), rest("", ""), rest("", none))
	playsFrom(t, "\x00\x01\x00", 2, feed("a"), next("", none), held(1), lays("\x01a\x01\x00"), feed("b;"), next(";", "ab"), lays("\x00\x00\x00"))
	playsFrom(t, "\x00\x01\x01;", 2, next(";", ""), rest(";", none))

	playsFrom(t, "\x00\x02\x00", 2, held(0), next("", none), rest("", none), lays("\x00\x02\x00"), rest("", none), feed("\n"), next("", ""), lays("\x00\x00\x00"))
	playsFrom(t, "\x00\x02\x00", 2, feed("a"), next("", none), held(2), lays("\x02\na\x00\x00"), rest("", "\na"))
	playsFrom(t, "\x00\x02\x00", 2, next(";", none), held(1), lays("\x01\n\x00\x00"), rest(";", "\n"))
	playsFrom(t, "\x00\x02\x00", 2, next("\n", ""), lays("\x00\x00\x00"))
	playsFrom(t, "\x00\x02\x00", 2, rest("\n", ""), lays("\x00\x00\x00"), rest("\n", none))
	playsFrom(t, "\x00\x02\x01a", 2, next("\n", ""), lays("\x00\x00\x01a"), rest("\n", "a"))

	playsFrom(t, "\x00\x03\x00", 2, rest("", ""), lays("\x00\x00\x00"), rest("", none))
	playsFrom(t, "\x00\x03\x00", 2, feed("a"), next("", none), lays("\x02\na\x01\x00"), rest("", "\na"))

	playsFrom(t, "\x01a\x01\x00", 2, feed("bc"), next(";", none), held(2), lays("\x02ab\x01\x00"), rest(";", "ab"))
	playsFrom(t, "\x02\n\n\x00\x00", 2, held(2), feed("\n"), next("", none), lays("\x02\n\n\x02\x00"), rest("", "\n\n"), rest("", none))
	playsFrom(t, "\x02;a\x00\x01;", 2, held(2), next(";", ";a"), next(";", none))
}

// R1: nothing is laid to none, and of none there is nothing.
func TestNilObjects(t *testing.T) {
	s := made(t, 4)
	feed("a\nb")(t, s)
	s.Lay(nil)
	lays("\x00\x00\x03a\nb")(t, s)
	for _, most := range []int{-1, 0, 1, api.MaxRecord, api.MaxRecord + 1} {
		if s := split.Read(nil, most); s != nil {
			t.Errorf("Read(nil, %d): %v", most, s)
		}
	}
}
