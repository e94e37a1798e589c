package table_test

import (
	"slices"
	"strings"
	"testing"

	"tailrace/api"
	"tailrace/pack"
	"tailrace/table"
)

// readsOf wants of bytes this table, none beside an error, and this of the Reader's End behind it.
func readsOf(t *testing.T, b string, want *plain, e, end api.Errno) {
	t.Helper()
	r := pack.NewReader([]byte(b))
	x, wrong := table.Read(r)
	if wrong != e || (x == nil) != (e != api.OK) {
		t.Fatalf("15.3: Read of %s: %v %d, want %d", hex(b), x != nil, wrong, e)
	}
	if e != api.OK {
		return
	}
	if r.End() != end {
		t.Errorf("15.3: Read of %s: End %d, want %d", hex(b), r.End(), end)
	}
	isPlain(t, x, want)
	if t.Failed() {
		t.Fatalf("15.3: Read of %s", hex(b))
	}
}

// leaves wants that something is wrong with bytes, which is left to the Reader: the table is New.
func leaves(t *testing.T, b string, end api.Errno) {
	t.Helper()
	readsOf(t, b, &plain{}, api.OK, end)
	x, _ := table.Read(pack.NewReader([]byte(b)))
	isNew(t, x)
}

// refuses wants ErrForm of bytes.
func refuses(t *testing.T, b string) {
	t.Helper()
	readsOf(t, b, nil, api.ErrForm, 0)
}

// num tells the bytes of a number, keyed those of a text.
func num(n uint64) string {
	w := pack.NewWriter()
	w.Num(n)
	return string(w.Bytes())
}

func keyed(s string) string { return num(uint64(len(s))) + s }

// manyEntries are so many entries, whose keys are two bytes each.
func manyEntries(n int) []row {
	var l []row
	for i := range n {
		l = append(l, row{string([]byte{byte(i), byte(i >> 8)}), number(float64(i)), uint64(i)})
	}
	return l
}

// made tells a table with these entries.
func made(p plain) *table.Table {
	x := table.New()
	x.Expire(p.ttl)
	for _, y := range p.rows {
		x.Put(y.key, y.v, y.time)
	}
	return x
}

// someTables are tables that can be read, without an entry, with one, with many.
func someTables() []plain {
	long := strings.Repeat("k", api.MaxText)
	l := []plain{
		{}, {ttl: 1}, {ttl: 300}, {ttl: api.MaxTime},
		{0, []row{{"", unset, 0}}},
		{3, []row{{"a", number(1), 5}}},
		{api.MaxTime, []row{{long, text(long), api.MaxTime}}},
		{300, []row{{"b", number(1), 5}, {"", text("x"), 6}}},
		{0, []row{{"", unset, 0}, {"\x00", unset, 0}, {"\x00\x00", number(0), 0}, {"\x00\x00\x00", text(""), 0}}},
		{128, []row{{"a", strnum("10", 10), 127}, {"b", text("10"), 128}, {"c", number(10), 300}, {"d", unset, 9}}},
		{7, []row{{"\xff\x00\x80", text("\x00\xff"), 1 << 20}, {strings.Repeat("\x00", 128), unset, 2}, {"10", strnum(" 1e5\n", 1e5), api.MaxTime}}},
		{5, manyEntries(api.MaxEntries)},
	}
	many := plain{ttl: 9}
	for i, v := range rights() {
		many.rows = append(many.rows, row{string(rune('a' + i)), v, uint64(i * i * 40)})
	}
	return append(l, many)
}

// 15.3: the bytes of a table.
func TestLay(t *testing.T) {
	const one = "\x01\x00\x00\x00\x00\x00\x00\xf0\x3f"
	for _, c := range []struct {
		p    plain
		want string
	}{
		{plain{}, "\x00\x00"},
		{plain{ttl: 1}, "\x01\x00"},
		{plain{ttl: 300}, "\xac\x02\x00"},
		{plain{ttl: api.MaxTime}, "\x80\x80\x80\x80\x80\x20\x00"},
		{plain{ttl: greatest}, "\xff\xff\xff\xff\xff\xff\xff\xff\xff\x01\x00"},
		{plain{0, []row{{"", unset, 0}}}, "\x00\x01\x00\x00\x00"},
		{plain{0, []row{{"a", number(1), 5}}}, "\x00\x01\x01a\x05" + one},
		{plain{0, []row{{"ab", text("cd"), 127}}}, "\x00\x01\x02ab\x7f\x02\x02cd"},
		{plain{0, []row{{"a", strnum("10", 10), 128}}}, "\x00\x01\x01a\x80\x01\x03\x0210"},
		{plain{0, []row{{"a", unset, api.MaxTime}}}, "\x00\x01\x01a\x80\x80\x80\x80\x80\x20\x00"},
		{plain{0, []row{{"a", unset, greatest}}}, "\x00\x01\x01a\xff\xff\xff\xff\xff\xff\xff\xff\xff\x01\x00"},
		{plain{0, []row{{"\x00\xff", text("\xff\x00"), 1}}}, "\x00\x01\x02\x00\xff\x01\x02\x02\xff\x00"},
		{plain{3, []row{{"b", unset, 2}, {"a", text("x"), 1}}}, "\x03\x02\x01b\x02\x00\x01a\x01\x02\x01x"},
		{plain{300, []row{{"b", number(1), 5}, {"", text("x"), 6}}}, "\xac\x02\x02\x01b\x05" + one + "\x00\x06\x02\x01x"},
		{plain{0, []row{{strings.Repeat("k", 127), unset, 0}}}, "\x00\x01\x7f" + strings.Repeat("k", 127) + "\x00\x00"},
		{plain{0, []row{{strings.Repeat("k", api.MaxText), unset, 0}}}, "\x00\x01\x80\x02" + strings.Repeat("k", api.MaxText) + "\x00\x00"},
		{plain{0, []row{{strings.Repeat("k", api.MaxText+1), unset, 0}}}, "\x00\x01\x81\x02" + strings.Repeat("k", api.MaxText+1) + "\x00\x00"},
	} {
		x := made(c.p)
		for range 2 {
			if b := laid(x); b != c.want {
				t.Errorf("15.3: Lay: %s, want %s", hex(b), hex(c.want))
			}
		}
		isPlain(t, x, &c.p)
	}
}

// 15.3: what was put again stands where it stood, with what it was put with last; what was dropped, cleared or has gone does not.
func TestLayOfWhatIsThere(t *testing.T) {
	x := table.New()
	plays(t, x, "+d+a+b+c+b-a")
	x.Put("c", unset, 1)
	if b := laid(x); b != "\x00\x03\x01d\x00\x01\x00\x00\x00\x00\x00\x00\x00\x00\x01b\x08\x01\x00\x00\x00\x00\x00\x00\x20\x40\x01c\x01\x00" {
		t.Errorf("15.3: %s", hex(b))
	}
	x.Expire(3)
	purges(t, x, 4, "d", "c")
	if b := laid(x); b != "\x03\x01\x01b\x08\x01\x00\x00\x00\x00\x00\x00\x20\x40" {
		t.Errorf("15.3: %s", hex(b))
	}
	x.Clear()
	if b := laid(x); b != "\x03\x00" {
		t.Errorf("15.3: %s", hex(b))
	}
}

// 15.3: what is no value is laid as Unset; to lay it turns it not.
func TestLayOfWrongValues(t *testing.T) {
	for _, v := range wrongs() {
		x := made(plain{0, []row{{"a", v, 5}}})
		if b := laid(x); b != "\x00\x01\x01a\x05\x00" {
			t.Errorf("15.3: %s is laid as %s", short(v), hex(b))
		}
		gets(t, x, "a", v)
		gets(t, from(t, laid(x)), "a", unset)
	}
}

// 15.3: what is laid is read as it was, and laid again as the same bytes; what was read, too.
func TestLaidIsRead(t *testing.T) {
	for _, p := range someTables() {
		b := laid(made(p))
		readsOf(t, b, &p, api.OK, api.OK)
		again := from(t, laid(from(t, b)))
		isPlain(t, again, &p)
	}
}

// 15.3: tables behind one another and behind other things; what follows is left, whatever it is.
func TestLaidAmongOthers(t *testing.T) {
	l := someTables()
	for _, behind := range []string{"", "\x00", "\x01", "\xff", "\x80", "\x80\x00", strings.Repeat("\x00", 20), "\x00\x01\x01a\x05\x00"} {
		for i := range l {
			p, q := &l[i], &l[(i*3+1)%len(l)]
			w := pack.NewWriter()
			w.Num(300)
			made(*p).Lay(w)
			made(*q).Lay(w)
			b := string(w.Bytes())
			if b != "\xac\x02"+p.laid()+q.laid() {
				t.Fatalf("15.3: %s", hex(b))
			}
			r := pack.NewReader([]byte(b + behind))
			r.Num(300)
			for _, want := range []*plain{p, q} {
				x, e := table.Read(r)
				if e != api.OK {
					t.Fatalf("15.3: ahead of %s: %d", hex(behind), e)
				}
				isPlain(t, x, want)
			}
			for k := range len(behind) {
				if x := r.Byte(255); x != behind[k] {
					t.Errorf("15.3: behind it %d, want %d", x, behind[k])
				}
			}
			if e := r.End(); e != api.OK {
				t.Errorf("15.3: behind it: %d", e)
			}
		}
	}
}

// 15.3: cut off at each place it is the Reader's ErrShort, and the table is New: it has not the beginning.
func TestReadCutOff(t *testing.T) {
	for _, p := range someTables() {
		b := p.laid()
		for k := range b {
			leaves(t, b[:k], api.ErrShort)
		}
	}
}

// 15.3: the time to live, the count, times and keys at their bounds and above.
func TestReadBounds(t *testing.T) {
	above := []uint64{api.MaxTime + 1, api.MaxTime << 1, 1 << 63, greatest}
	readsOf(t, num(api.MaxTime)+"\x00", &plain{ttl: api.MaxTime}, api.OK, api.OK)
	readsOf(t, "\x00\x01\x01a"+num(api.MaxTime)+"\x00", &plain{0, []row{{"a", unset, api.MaxTime}}}, api.OK, api.OK)
	for _, n := range above {
		leaves(t, num(n)+"\x00", api.ErrLong)
		leaves(t, num(n)+"\x01\x01a\x05\x00", api.ErrLong)
		leaves(t, "\x03\x01\x01a"+num(n)+"\x00", api.ErrLong)
		leaves(t, "\x03\x02\x01a\x05\x00\x01b"+num(n)+"\x00", api.ErrLong)
	}
	for _, n := range []int{0, 1, 127, 128} {
		p := plain{3, manyEntries(n)}
		readsOf(t, p.laid(), &p, api.OK, api.OK)
	}
	for _, n := range []int{api.MaxEntries + 1, 200, 1000} {
		p := plain{3, manyEntries(n)}
		leaves(t, laid(made(p)), api.ErrLong)
	}
	for _, n := range above {
		leaves(t, "\x03"+num(n)+"\x01a\x05\x00", api.ErrLong)
	}
	for _, n := range []int{0, 1, 127, 128, api.MaxText - 1, api.MaxText} {
		p := plain{3, []row{{strings.Repeat("k", n), unset, 5}}}
		readsOf(t, "\x03\x01"+num(uint64(n))+strings.Repeat("k", n)+"\x05\x00", &p, api.OK, api.OK)
	}
	for _, n := range []int{api.MaxText + 1, 2 * api.MaxText, 1 << 16} {
		leaves(t, laid(made(plain{3, []row{{strings.Repeat("k", n), unset, 5}}})), api.ErrLong)
		leaves(t, laid(made(plain{3, []row{{"a", unset, 5}, {strings.Repeat("k", n), unset, 5}}})), api.ErrLong)
	}
	leaves(t, "\x03\x01"+num(greatest)+"\x05\x00", api.ErrLong)
}

// 15.3: a key that comes twice, wherever; no table is there beside the error.
func TestReadOfAKeyTwice(t *testing.T) {
	refuses(t, "\x00\x02\x01a\x05\x00\x01a\x05\x00")
	refuses(t, "\x00\x02\x01a\x05\x00\x01a\x06\x02\x01x")
	refuses(t, "\x07\x02\x00\x05\x00\x00\x05\x00")
	refuses(t, "\x00\x02\x00\x00\x00\x00\x00\x00")
	refuses(t, "\x00\x03\x01a\x05\x00\x01b\x05\x00\x01a\x05\x00")
	refuses(t, "\x00\x03\x01a\x05\x00\x01b\x05\x00\x01b\x05\x00")
	refuses(t, "\x00\x03\x01b\x05\x00\x01b\x05\x00\x01a\x05\x00")
	refuses(t, "\x00\x02\x01a\x05\x00\x01a\x05\x00"+"\x00\x80\xff")
	long := keyed(strings.Repeat("k", api.MaxText)) + "\x05\x00"
	refuses(t, "\x00\x02"+long+long)
	p := plain{3, manyEntries(api.MaxEntries)}
	for _, i := range []int{0, 1, 64, api.MaxEntries - 2} {
		twice := plain{3, slices.Clone(p.rows)}
		twice.rows[api.MaxEntries-1].key = twice.rows[i].key
		refuses(t, twice.laid())
	}
	// Keys that part in their last byte, or in their length, are two.
	readsOf(t, "\x00\x04\x01a\x05\x00\x02aa\x05\x00\x02a\x00\x05\x00\x00\x05\x00", &plain{0, []row{{"a", unset, 5}, {"aa", unset, 5}, {"a\x00", unset, 5}, {"", unset, 5}}}, api.OK, api.OK)
}

// 15.3: a value that is not right, in the first, a middle and the last entry.
func TestReadOfWrongValues(t *testing.T) {
	for _, wrong := range []string{"\x03\x01x", "\x03\x00", "\x03\x0310x", "\x03\x03nan", "\x01\x00\x00\x00\x00\x00\x00\x00\x80"} {
		refuses(t, "\x00\x01\x01a\x05"+wrong)
		refuses(t, "\x00\x01\x01a\x05"+wrong+"\x00\x80")
		refuses(t, "\x07\x02\x01a\x05"+wrong+"\x01b\x05\x00")
		refuses(t, "\x07\x03\x01a\x05\x00\x01b\x05"+wrong+"\x01c\x05\x00")
		refuses(t, "\x07\x02\x01a\x05\x00\x01b\x05"+wrong)
	}
}

// 15.3: what the Reader finds wrong in each part, of each kind, is left to its End.
func TestReadOfWrongParts(t *testing.T) {
	const form, long = "\x80\x00", "\xff\xff\xff\xff\xff\xff\xff\xff\xff\x01"
	const tenth = "\xff\xff\xff\xff\xff\xff\xff\xff\xff\x02"
	for _, behind := range []string{"", "\x00", "\x00\x00\x00\x00\x00\x00\x00\x00\x00", "\x01a\x05\x00", "\xff"} {
		for _, ahead := range []string{"", "\x07", "\x07\x02", "\x07\x02\x01a", "\x07\x02\x01a\x05\x00", "\x07\x02\x01a\x05\x00\x01b", "\x00\x01\x00", "\x00\x02\x00\x00\x00\x01a"} {
			leaves(t, ahead+form+behind, api.ErrForm)
			leaves(t, ahead+tenth+behind, api.ErrForm)
			leaves(t, ahead+long+behind, api.ErrLong)
		}
		for _, ahead := range []string{"\x07\x01\x01a\x05", "\x07\x02\x01a\x05\x00\x01b\x05", "\x00\x02\x01a\x00\x00\x00\x00"} {
			leaves(t, ahead+"\x04"+behind, api.ErrLong)
			leaves(t, ahead+"\xff"+behind, api.ErrLong)
			leaves(t, ahead+"\x02\x80\x00"+behind, api.ErrForm)
			leaves(t, ahead+"\x03\x80\x00"+behind, api.ErrForm)
			leaves(t, ahead+"\x02\x81\x02"+behind, api.ErrLong)
			leaves(t, ahead+"\x01\x00\x00\x00\x00\x00\x00\xf8\x7f"+behind, api.ErrForm)
			leaves(t, ahead+"\x01\x01\x00\x00\x00\x00\x00\xf8\xff"+behind, api.ErrForm)
		}
	}
}

// 15.3: the first that is wrong, from the left, is what counts.
func TestReadOfMoreThanOneFault(t *testing.T) {
	const twice, wrong, form = "\x01a\x05\x00\x01a\x05\x00", "\x01w\x05\x03\x01x", "\x80\x00"
	refuses(t, "\x00\x03"+twice)
	refuses(t, "\x00\x03"+twice+form)
	refuses(t, "\x00\x02\x01a\x05\x00\x01a")
	refuses(t, "\x00\x02\x01a\x05\x00\x01a"+form)
	refuses(t, "\x00\x02"+wrong)
	refuses(t, "\x00\x02"+wrong+form)
	leaves(t, "\x00\x03"+form+twice, api.ErrForm)
	leaves(t, "\x00\x03\x01b"+form+twice, api.ErrForm)
	leaves(t, "\x00\x02"+form+wrong, api.ErrForm)
	leaves(t, "\x00\x03\x00\x05\x00"+form+"\x00\x05\x00", api.ErrForm)
	leaves(t, "\x00\x03\x00\x05\x00"+num(api.MaxText+1), api.ErrLong)
	leaves(t, "\x00\x03\x00\x05\x00\x01b\x05\x04", api.ErrLong)
	leaves(t, "\x00\x03\x00\x05\x00", api.ErrShort)
}

// 15.3: of a Reader that found something wrong ahead nothing is read, however whole it is; what it found stays.
func TestReadBehindAFault(t *testing.T) {
	whole := "\x07\x02\x01a\x05\x00\x01b\x05\x00"
	for ahead, want := range map[string]api.Errno{"\x0a": api.ErrLong, "\x80\x00": api.ErrForm} {
		for _, b := range []string{whole, "", "\x00\x00", "\x00\x02\x00\x00\x00\x00\x00\x00", "\x00\x01\x01a\x05\x03\x01x"} {
			r := pack.NewReader([]byte(ahead + b))
			r.Num(9)
			for range 2 {
				x, e := table.Read(r)
				if x == nil || e != api.OK || r.End() != want {
					t.Fatalf("15.3: behind %s: %d, End %d, want %d", hex(ahead), e, r.End(), want)
				}
				isNew(t, x)
			}
		}
	}
	r := pack.NewReader([]byte(whole))
	x, _ := table.Read(r)
	keysAre(t, x, "a", "b")
	for range 3 {
		x, e := table.Read(r)
		if x == nil || e != api.OK || r.End() != api.ErrShort {
			t.Fatalf("15.3: behind the end: %d, End %d", e, r.End())
		}
		isNew(t, x)
	}
}

// R1: nothing is laid to a nil Writer; a nil Reader is ErrArg.
func TestNilObjects(t *testing.T) {
	p := plain{3, []row{{"a", number(1), 5}}}
	x := made(p)
	x.Lay(nil)
	isPlain(t, x, &p)
	table.New().Lay(nil)
	if x, e := table.Read(nil); x != nil || e != api.ErrArg {
		t.Errorf("R1: Read(nil): %v %d", x != nil, e)
	}
}
