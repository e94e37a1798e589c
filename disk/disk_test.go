package disk_test

import (
	"math"
	"slices"
	"strings"
	"testing"

	"tailrace/api"
	"tailrace/disk"
)

var (
	longest = strings.Repeat("n", api.MaxName)
	tooLong = longest + "n"
)

func made(t *testing.T, room int) *disk.Disk {
	t.Helper()
	d, e := disk.New(room)
	if e != api.OK || d == nil {
		t.Fatalf("New(%d): %d", room, e)
	}
	return d
}

// do fails the test if a call that was to go well did not.
func do(t *testing.T, e api.Errno) {
	t.Helper()
	if e != api.OK {
		t.Fatalf("answered %d", e)
	}
}

func put(t *testing.T, d *disk.Disk, name, bytes string) {
	t.Helper()
	do(t, d.Append(name, []byte(bytes)))
}

// holds checks all files of d, which are given as name=bytes, the names rising.
func holds(t *testing.T, d *disk.Disk, want ...string) {
	t.Helper()
	var got []string
	used := 0
	for _, name := range d.Names() {
		b, ok := d.Read(name)
		if !ok {
			t.Errorf("of %q nothing is read", name)
		}
		used += len(b)
		got = append(got, name+"="+string(b))
	}
	if !slices.Equal(got, want) {
		t.Errorf("holds %q, want %q", got, want)
	}
	if d.Used() != used {
		t.Errorf("used %d, want %d", d.Used(), used)
	}
}

// 2.1: a new disk is empty and up.
func TestNew(t *testing.T) {
	for _, room := range []int{0, 1, 9, api.MaxDisk} {
		d := made(t, room)
		holds(t, d)
		if b, ok := d.Read("a"); b != nil || ok {
			t.Errorf("of a file that is not there: %q %t", b, ok)
		}
		if d.Down() || d.Pending() != 0 || d.Crash(0, 0) != 0 {
			t.Errorf("New(%d): down %t, pending %d", room, d.Down(), d.Pending())
		}
		for range 20 {
			do(t, d.Sync())
		}
	}
	for _, room := range []int{-1, api.MaxDisk + 1, math.MinInt, math.MaxInt} {
		if d, e := disk.New(room); d != nil || e != api.ErrArg {
			t.Errorf("New(%d): %v %d", room, d, e)
		}
	}
}

// 2.1: names are of 1 to MaxName bytes, of any values.
func TestNames(t *testing.T) {
	for _, name := range []string{"a", " ", "\x00", "\xff\xfe", "a/b", "..", longest, strings.Repeat("\xc3\xa4", api.MaxName/2)} {
		d := made(t, 9)
		put(t, d, name, "x")
		holds(t, d, name+"=x")
		do(t, d.Rename(name, "z"))
		do(t, d.Rename("z", name))
		do(t, d.Truncate(name, 0))
		holds(t, d, name+"=")
		do(t, d.Remove(name))
		holds(t, d)
	}
	for _, name := range []string{"", tooLong, strings.Repeat("\xc3\xa4", api.MaxName/2) + "a", strings.Repeat("n", 999)} {
		d := made(t, 9)
		put(t, d, "a", "x")
		if e := d.Append(name, []byte("x")); e != api.ErrArg {
			t.Errorf("Append(%q): %d", name, e)
		}
		if e := d.Rename("a", name); e != api.ErrArg {
			t.Errorf("Rename(a, %q): %d", name, e)
		}
		if e := d.Rename(name, "b"); e != api.ErrNone {
			t.Errorf("Rename(%q, b): %d", name, e)
		}
		if e := d.Truncate(name, 0); e != api.ErrNone {
			t.Errorf("Truncate(%q): %d", name, e)
		}
		if e := d.Remove(name); e != api.ErrNone {
			t.Errorf("Remove(%q): %d", name, e)
		}
		if b, ok := d.Read(name); b != nil || ok {
			t.Errorf("Read(%q): %q %t", name, b, ok)
		}
		holds(t, d, "a=x")
		if d.Pending() != 1 {
			t.Errorf("pending %d of what was refused", d.Pending())
		}
	}
}

// 2.1: the names are told rising, byte by byte, whatever came first.
func TestNamesRise(t *testing.T) {
	want := []string{"\x00", "0", "10", "2", "B", "a", "ab", "b", "\xc3\xa4", "\xff"}
	d := made(t, 99)
	for _, i := range []int{3, 7, 0, 9, 1, 5, 8, 2, 6, 4} {
		put(t, d, want[i], "x")
	}
	for range 5 {
		if got := d.Names(); !slices.Equal(got, want) {
			t.Errorf("told %q, want %q", got, want)
		}
	}
	do(t, d.Rename("\x00", "c"))
	want = append(slices.Insert(slices.Clone(want[1:8]), 7, "c"), want[8:]...)
	if got := d.Names(); !slices.Equal(got, want) {
		t.Errorf("told %q, want %q", got, want)
	}
}

// 2.1: what is read is as with all that is pending done, and stays so when it is synced.
func TestReadsWhatIsPending(t *testing.T) {
	d := made(t, 99)
	for i, step := range []struct {
		e    api.Errno
		want []string
	}{
		{d.Append("a", []byte("xyz")), nil},
		{d.Append("b", nil), nil},
		{d.Append("a", nil), nil},
		{d.Append("a", []byte("12")), nil},
		{d.Rename("a", "c"), nil},
		{d.Truncate("c", 4), nil},
		{d.Append("a", []byte("q")), nil},
		{d.Remove("b"), nil},
	} {
		if step.e != api.OK {
			t.Errorf("%d: %d", i, step.e)
		}
	}
	for range 2 {
		holds(t, d, "a=q", "c=xyz1")
		do(t, d.Sync())
	}
}

// 2.1: each that is OK is pending, a Sync leaves none, and what is refused is not.
func TestPending(t *testing.T) {
	d := made(t, 5)
	pending := func(want int) {
		t.Helper()
		if d.Pending() != want {
			t.Errorf("pending %d, want %d", d.Pending(), want)
		}
	}
	put(t, d, "a", "xyz")
	pending(1)
	put(t, d, "a", "")
	pending(2)
	do(t, d.Truncate("a", 3))
	pending(3)
	do(t, d.Rename("a", "a"))
	pending(4)
	d.Append("", nil)
	d.Append("a", []byte("123"))
	d.Truncate("a", 4)
	d.Truncate("b", 0)
	d.Rename("b", "c")
	d.Rename("a", "")
	d.Remove("b")
	pending(4)
	do(t, d.Remove("a"))
	pending(5)
	do(t, d.Sync())
	pending(0)
	do(t, d.Sync())
	pending(0)
	put(t, d, "a", "1")
	pending(1)
}

// 2.1, 2.2: how much room there is, and what is refused for want of it.
func TestRoom(t *testing.T) {
	d := made(t, 5)
	put(t, d, "a", "123")
	put(t, d, "b", "45")
	if e := d.Append("a", []byte("6")); e != api.ErrFull {
		t.Errorf("of a full disk: %d", e)
	}
	put(t, d, "a", "")
	put(t, d, "c", "")
	holds(t, d, "a=123", "b=45", "c=")
	do(t, d.Room(6))
	if e := d.Append("c", []byte("67")); e != api.ErrFull {
		t.Errorf("one byte too much: %d", e)
	}
	put(t, d, "c", "6")
	do(t, d.Remove("b"))
	put(t, d, "d", "78")
	do(t, d.Truncate("a", 1))
	put(t, d, "a", "90")
	holds(t, d, "a=190", "c=6", "d=78")
	do(t, d.Rename("c", "a"))
	put(t, d, "a", "123")
	holds(t, d, "a=6123", "d=78")

	do(t, d.Room(5))
	for _, name := range []string{"a", "z"} {
		if e := d.Append(name, nil); e != api.ErrFull {
			t.Errorf("of a disk with less room than is used: %d", e)
		}
	}
	do(t, d.Rename("a", "b"))
	do(t, d.Sync())
	do(t, d.Truncate("b", 3))
	put(t, d, "b", "")
	holds(t, d, "b=612", "d=78")
	for _, room := range []int{-1, api.MaxDisk + 1, math.MinInt, math.MaxInt} {
		if e := d.Room(room); e != api.ErrArg {
			t.Errorf("Room(%d): %d", room, e)
		}
		if e := d.Append("b", []byte("1")); e != api.ErrFull {
			t.Errorf("a room that was refused holds: %d", e)
		}
	}
	do(t, d.Room(0))
	do(t, d.Remove("b"))
	do(t, d.Remove("d"))
	put(t, d, "b", "")
	do(t, d.Room(api.MaxDisk))
	do(t, d.Append("b", make([]byte, api.MaxDisk)))
	if e := d.Append("c", []byte("1")); e != api.ErrFull || d.Used() != api.MaxDisk {
		t.Errorf("of the greatest disk: %d", e)
	}
}

// 2.1, 2.2: at most MaxFiles files, however they come and go.
func TestMaxFiles(t *testing.T) {
	d := made(t, 9)
	for i := range api.MaxFiles {
		put(t, d, string(rune('0'+i)), "")
	}
	for range 2 {
		if e := d.Append("new", nil); e != api.ErrFull || len(d.Names()) != api.MaxFiles {
			t.Errorf("one file too much: %d", e)
		}
		do(t, d.Sync())
	}
	put(t, d, "0", "1")
	do(t, d.Rename("0", "old"))
	if e := d.Append("0", nil); e != api.ErrFull {
		t.Errorf("one that was renamed still counts: %d", e)
	}
	do(t, d.Rename("old", "1"))
	put(t, d, "0", "")
	do(t, d.Remove("2"))
	put(t, d, "new", "")
	if e := d.Append("2", nil); e != api.ErrFull || len(d.Names()) != api.MaxFiles {
		t.Errorf("one file too much: %d", e)
	}
}

// 2.2: Append stands behind the file's bytes, of whatever values they are.
func TestAppend(t *testing.T) {
	d := made(t, 999)
	want := ""
	for i := range 256 {
		put(t, d, "a", string([]byte{byte(i)}))
		want += string([]byte{byte(i)})
	}
	put(t, d, "a", "\x00\x00")
	holds(t, d, "a="+want+"\x00\x00")
}

// 2.2: what a Truncate cut off is gone for good, also for what comes behind.
func TestTruncate(t *testing.T) {
	d := made(t, 99)
	put(t, d, "a", "xyz")
	for _, c := range []struct {
		name string
		size int
		e    api.Errno
		want string
	}{
		{"b", 0, api.ErrNone, "a=xyz"},
		{"b", -1, api.ErrNone, "a=xyz"},
		{"", 9, api.ErrNone, "a=xyz"},
		{"a", -1, api.ErrArg, "a=xyz"},
		{"a", 4, api.ErrArg, "a=xyz"},
		{"a", math.MinInt, api.ErrArg, "a=xyz"},
		{"a", math.MaxInt, api.ErrArg, "a=xyz"},
		{"a", 3, api.OK, "a=xyz"},
		{"a", 2, api.OK, "a=xy"},
		{"a", 3, api.ErrArg, "a=xy"},
		{"a", 0, api.OK, "a="},
		{"a", 0, api.OK, "a="},
		{"a", 1, api.ErrArg, "a="},
	} {
		if e := d.Truncate(c.name, c.size); e != c.e {
			t.Errorf("Truncate(%q, %d): %d, want %d", c.name, c.size, e, c.e)
		}
		holds(t, d, c.want)
	}
	put(t, d, "a", "1")
	holds(t, d, "a=1")
}

// 2.2: Rename, and one that has the new name ahead.
func TestRename(t *testing.T) {
	d := made(t, 99)
	put(t, d, "a", "xyz")
	put(t, d, "b", "12")
	for _, c := range []struct {
		from, to string
		e        api.Errno
		want     []string
	}{
		{"c", "", api.ErrArg, []string{"a=xyz", "b=12"}},
		{"c", tooLong, api.ErrArg, []string{"a=xyz", "b=12"}},
		{"a", "", api.ErrArg, []string{"a=xyz", "b=12"}},
		{"c", "a", api.ErrNone, []string{"a=xyz", "b=12"}},
		{"c", "c", api.ErrNone, []string{"a=xyz", "b=12"}},
		{"a", "a", api.OK, []string{"a=xyz", "b=12"}},
		{"a", "c", api.OK, []string{"b=12", "c=xyz"}},
		{"a", "c", api.ErrNone, []string{"b=12", "c=xyz"}},
		{"b", "c", api.OK, []string{"c=12"}},
		{"c", longest, api.OK, []string{longest + "=12"}},
	} {
		if e := d.Rename(c.from, c.to); e != c.e {
			t.Errorf("Rename(%q, %q): %d, want %d", c.from, c.to, e, c.e)
		}
		holds(t, d, c.want...)
	}
}

// 2.2: a file that is gone begins anew.
func TestRemove(t *testing.T) {
	d := made(t, 99)
	if e := d.Remove("a"); e != api.ErrNone {
		t.Errorf("of an empty disk: %d", e)
	}
	put(t, d, "a", "xyz")
	do(t, d.Remove("a"))
	if e := d.Remove("a"); e != api.ErrNone {
		t.Errorf("of one that is gone: %d", e)
	}
	holds(t, d)
	put(t, d, "a", "1")
	holds(t, d, "a=1")
	do(t, d.Sync())
	do(t, d.Remove("a"))
	put(t, d, "a", "")
	holds(t, d, "a=")
}

// 2.2: of two errors the one that the chapter names first.
func TestFirstError(t *testing.T) {
	d := made(t, 3)
	put(t, d, "a", "xyz")
	if e := d.Append("", []byte("1")); e != api.ErrArg {
		t.Errorf("no name, and no room: %d", e)
	}
	if e := d.Append(tooLong, []byte("1")); e != api.ErrArg {
		t.Errorf("a name that is too long, and no room: %d", e)
	}
	if e := d.Rename("", ""); e != api.ErrArg {
		t.Errorf("no name, and no file: %d", e)
	}
	if e := d.Truncate("b", -1); e != api.ErrNone {
		t.Errorf("no file, and a size below 0: %d", e)
	}
}
