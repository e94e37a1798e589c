package disk_test

import (
	"math"
	"testing"

	"tailrace/api"
	"tailrace/disk"
)

// begun is the disk of the chapter's examples: of its two that are pending the first is an Append of two bytes.
func begun(t *testing.T) *disk.Disk {
	t.Helper()
	d := made(t, 9)
	put(t, d, "a", "xyz")
	do(t, d.Sync())
	put(t, d, "a", "12")
	do(t, d.Remove("a"))
	return d
}

// 2.4, and the chapter's examples: keep and torn are brought into what there is.
func TestCrashKeepsABeginning(t *testing.T) {
	for _, c := range []struct {
		keep, torn, k int
		want          []string
	}{
		{1, 0, 1, []string{"a=xyz12"}},
		{0, 1, 0, []string{"a=xyz1"}},
		{3, 5, 0, []string{"a=xyz1"}},
		{0, 0, 0, []string{"a=xyz"}},
		{0, 2, 0, []string{"a=xyz"}},
		{0, 3, 0, []string{"a=xyz1"}},
		{0, -1, 0, []string{"a=xyz1"}},
		{0, -2, 0, []string{"a=xyz"}},
		{1, 1, 1, []string{"a=xyz12"}},
		{1, 7, 1, []string{"a=xyz12"}},
		{2, 0, 2, nil},
		{2, 9, 2, nil},
		{4, 0, 1, []string{"a=xyz12"}},
		{5, 0, 2, nil},
		{-1, 0, 2, nil},
		{-2, 1, 1, []string{"a=xyz12"}},
		{-3, 1, 0, []string{"a=xyz1"}},
		{-4, 1, 2, nil},
		{math.MaxInt, math.MaxInt, math.MaxInt % 3, []string{"a=xyz12"}},
		{math.MinInt, math.MinInt, (math.MinInt%3 + 3) % 3, []string{"a=xyz12"}},
	} {
		for _, down := range []bool{false, true} {
			d := begun(t)
			if down {
				d.Fuse(0)
				d.Sync()
			}
			if k := d.Crash(c.keep, c.torn); k != c.k {
				t.Errorf("Crash(%d, %d): %d, want %d", c.keep, c.torn, k, c.k)
			}
			holds(t, d, c.want...)
			if d.Pending() != 0 || d.Down() {
				t.Errorf("Crash(%d, %d): pending %d, down %t", c.keep, c.torn, d.Pending(), d.Down())
			}
		}
	}
}

// 2.4: all that a crash leaves is synced: the next one takes nothing of it.
func TestCrashSyncs(t *testing.T) {
	for keep := range 3 {
		d := begun(t)
		put(t, d, "b", "345")
		d.Crash(keep, 1)
		left := d.Names()
		var want []string
		for _, name := range left {
			b, _ := d.Read(name)
			want = append(want, name+"="+string(b))
		}
		if k := d.Crash(7, 7); k != 0 {
			t.Errorf("of nothing that is pending %d are done", k)
		}
		holds(t, d, want...)
		put(t, d, "a", "9")
		put(t, d, "c", "9")
		d.Crash(0, 0)
		holds(t, d, want...)
	}
}

// 2.4: of each kind what comes next is an Append of which a part is done, or is not done at all.
func TestCrashTears(t *testing.T) {
	for _, c := range []struct {
		name string
		next func(d *disk.Disk) api.Errno
		torn []string // what is there when torn is 0, 1, 2, ..
	}{
		{"an Append", func(d *disk.Disk) api.Errno { return d.Append("a", []byte("123")) }, []string{"a=xyz", "a=xyz1", "a=xyz12", "a=xyz", "a=xyz1"}},
		{"an Append of one byte", func(d *disk.Disk) api.Errno { return d.Append("a", []byte("1")) }, []string{"a=xyz", "a=xyz", "a=xyz"}},
		{"an Append of nothing", func(d *disk.Disk) api.Errno { return d.Append("a", nil) }, []string{"a=xyz", "a=xyz"}},
		{"a Truncate", func(d *disk.Disk) api.Errno { return d.Truncate("a", 1) }, []string{"a=xyz", "a=xyz", "a=xyz"}},
		{"a Rename", func(d *disk.Disk) api.Errno { return d.Rename("a", "b") }, []string{"a=xyz", "a=xyz", "a=xyz"}},
		{"a Remove", func(d *disk.Disk) api.Errno { return d.Remove("a") }, []string{"a=xyz", "a=xyz", "a=xyz"}},
	} {
		for torn, want := range c.torn {
			d := made(t, 99)
			put(t, d, "a", "xyz")
			do(t, c.next(d))
			put(t, d, "later", "q")
			if k := d.Crash(1, torn); k != 1 {
				t.Errorf("%s: %d are done", c.name, k)
			}
			holds(t, d, want)
		}
	}
}

// 2.4: a new file is there from the first byte on that is left of it; one without bytes comes whole or not.
func TestCrashOfANewFile(t *testing.T) {
	for torn, want := range [][]string{nil, {"a=1"}, {"a=12"}} {
		d := made(t, 9)
		put(t, d, "a", "123")
		d.Crash(0, torn)
		holds(t, d, want...)
	}
	d := made(t, 9)
	put(t, d, "a", "")
	d.Crash(0, 1)
	holds(t, d)
	put(t, d, "a", "")
	d.Crash(1, 0)
	holds(t, d, "a=")
}

// 2.4: what is left of an Append is of its file under the name that it had by then.
func TestCrashBehindRenames(t *testing.T) {
	d := made(t, 99)
	put(t, d, "a", "xyz")
	put(t, d, "b", "12")
	do(t, d.Sync())
	do(t, d.Rename("a", "b"))
	put(t, d, "b", "345")
	do(t, d.Truncate("b", 1))
	put(t, d, "a", "6")
	if e := d.Rename("b", "a"); e != api.OK {
		t.Errorf("Rename: %d", e)
	}
	d.Crash(1, 2)
	holds(t, d, "b=xyz34")
}

// 2.4: a crash brings back what was truncated, renamed over and removed but not synced.
func TestCrashBringsBack(t *testing.T) {
	d := made(t, 99)
	put(t, d, "a", "xyz")
	put(t, d, "b", "12")
	put(t, d, "c", "3")
	do(t, d.Sync())
	do(t, d.Truncate("a", 1))
	put(t, d, "a", "QQQQ")
	do(t, d.Rename("b", "c"))
	put(t, d, "c", "QQ")
	do(t, d.Remove("a"))
	put(t, d, "a", "QQQQQ")
	d.Crash(0, 0)
	holds(t, d, "a=xyz", "b=12", "c=3")
}

// 2.4: the room is not asked, neither for what is done again nor for what comes back; it stays as it was set.
func TestCrashAsksNoRoom(t *testing.T) {
	d := made(t, 9)
	put(t, d, "a", "xyz")
	put(t, d, "b", "1234")
	do(t, d.Room(1))
	d.Crash(1, 2)
	holds(t, d, "a=xyz", "b=12")
	if e := d.Append("a", []byte("1")); e != api.ErrFull {
		t.Errorf("the room is as it was set: %d", e)
	}
	do(t, d.Remove("a"))
	do(t, d.Remove("b"))
	put(t, d, "c", "1")
	d.Crash(0, 0)
	holds(t, d, "a=xyz", "b=12")
	do(t, d.Room(6))
	put(t, d, "c", "1")
	holds(t, d, "a=xyz", "b=12", "c=1")
}

// 2.4: no fuse is set behind a crash.
func TestCrashTakesTheFuse(t *testing.T) {
	for _, n := range []int{0, 1, 5} {
		d := begun(t)
		d.Fuse(n)
		d.Crash(0, 0)
		for range 9 {
			do(t, d.Sync())
		}
		if d.Down() {
			t.Error("down without a fuse")
		}
	}
}

// 2.5: what was synced stays, however often it crashes.
func TestSyncedStays(t *testing.T) {
	d := made(t, 999)
	want := ""
	for i := range 20 {
		put(t, d, "a", "xyz")
		want += "xyz"
		do(t, d.Sync())
		put(t, d, "a", "12345")
		d.Fuse(i % 3)
		d.Append("b", []byte("67"))
		d.Remove("a")
		d.Crash(0, i)
		do(t, d.Truncate("a", len(want)))
		holds(t, d, "a="+want)
		do(t, d.Sync())
	}
}
