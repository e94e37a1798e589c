package disk_test

import (
	"math"
	"testing"

	"tailrace/api"
	"tailrace/disk"
)

// counted are the calls that count, each on a disk with files a and b, with what each answers of one that is up.
var counted = []struct {
	name string
	call func(d *disk.Disk) api.Errno
	e    api.Errno
}{
	{"Append", func(d *disk.Disk) api.Errno { return d.Append("a", []byte("1")) }, api.OK},
	{"Append without a name", func(d *disk.Disk) api.Errno { return d.Append("", nil) }, api.ErrArg},
	{"Append without room", func(d *disk.Disk) api.Errno { return d.Append("a", make([]byte, 99)) }, api.ErrFull},
	{"Truncate", func(d *disk.Disk) api.Errno { return d.Truncate("a", 0) }, api.OK},
	{"Truncate of none", func(d *disk.Disk) api.Errno { return d.Truncate("c", 0) }, api.ErrNone},
	{"Truncate below 0", func(d *disk.Disk) api.Errno { return d.Truncate("a", -1) }, api.ErrArg},
	{"Rename", func(d *disk.Disk) api.Errno { return d.Rename("a", "b") }, api.OK},
	{"Rename to no name", func(d *disk.Disk) api.Errno { return d.Rename("a", "") }, api.ErrArg},
	{"Rename of none", func(d *disk.Disk) api.Errno { return d.Rename("c", "b") }, api.ErrNone},
	{"Remove", func(d *disk.Disk) api.Errno { return d.Remove("a") }, api.OK},
	{"Remove of none", func(d *disk.Disk) api.Errno { return d.Remove("c") }, api.ErrNone},
	{"Sync", func(d *disk.Disk) api.Errno { return d.Sync() }, api.OK},
}

func withFiles(t *testing.T) *disk.Disk {
	t.Helper()
	d := made(t, 20)
	put(t, d, "a", "xyz")
	put(t, d, "b", "12")
	return d
}

// isDown checks that d is down: no names, no bytes, and nothing is read.
func isDown(t *testing.T, d *disk.Disk) {
	t.Helper()
	if !d.Down() || d.Names() != nil || d.Used() != 0 {
		t.Errorf("down %t, names %q, used %d", d.Down(), d.Names(), d.Used())
	}
	for _, name := range []string{"a", "b", "c", ""} {
		if b, ok := d.Read(name); b != nil || ok {
			t.Errorf("of %q it reads %q %t", name, b, ok)
		}
	}
}

// 2.2: each of the five counts, also where it is refused; the one behind the fuse does nothing.
func TestCallsCount(t *testing.T) {
	for _, c := range counted {
		d := withFiles(t)
		d.Fuse(1)
		if e := c.call(d); e != c.e || d.Down() {
			t.Errorf("%s: %d, want %d", c.name, e, c.e)
		}
		if e := d.Sync(); e != api.ErrDown {
			t.Errorf("%s does not count", c.name)
		}
		isDown(t, d)

		d = withFiles(t)
		d.Fuse(0)
		if d.Down() {
			t.Error("down ahead of a call")
		}
		holds(t, d, "a=xyz", "b=12")
		for range 3 {
			if e := c.call(d); e != api.ErrDown {
				t.Errorf("%s of one that is down: %d", c.name, e)
			}
			isDown(t, d)
		}
		if d.Pending() != 2 {
			t.Errorf("%s of one that is down: pending %d", c.name, d.Pending())
		}
		d.Crash(2, 0)
		holds(t, d, "a=xyz", "b=12")
	}
}

// 2.2, 2.3: no other call counts.
func TestOtherCallsDoNotCount(t *testing.T) {
	d := withFiles(t)
	d.Fuse(1)
	for range 3 {
		holds(t, d, "a=xyz", "b=12")
		d.Read("c")
		do(t, d.Room(20))
		d.Room(-1)
		d.Pending()
		d.Down()
	}
	do(t, d.Sync())
	if e := d.Sync(); e != api.ErrDown {
		t.Errorf("the fuse is longer than it was set: %d", e)
	}
}

// 2.3, and the chapter's example.
func TestFuseInTheMidst(t *testing.T) {
	d := made(t, 9)
	d.Fuse(1)
	put(t, d, "b", "1")
	if e := d.Append("b", []byte("2")); e != api.ErrDown {
		t.Errorf("behind the fuse: %d", e)
	}
	isDown(t, d)
	if d.Crash(1, 0) != 1 {
		t.Error("what was pending when it went down still is")
	}
	holds(t, d, "b=1")
}

// 2.3: a fuse lets through as many as it was set to; the last that was set holds.
func TestFuseLength(t *testing.T) {
	for _, n := range []int{0, 1, 2, 3, 50} {
		d := made(t, 99)
		d.Fuse(7)
		do(t, d.Sync())
		d.Fuse(n)
		for i := range n {
			if e := d.Append("a", []byte("1")); e != api.OK {
				t.Errorf("Fuse(%d): %d: %d", n, i, e)
			}
		}
		if d.Down() {
			t.Errorf("Fuse(%d): down too early", n)
		}
		if e := d.Append("a", []byte("1")); e != api.ErrDown || !d.Down() {
			t.Errorf("Fuse(%d): %d", n, e)
		}
		if d.Pending() != n || d.Crash(n, 0) != n || d.Used() != n {
			t.Errorf("Fuse(%d): %d bytes", n, d.Used())
		}
	}
	d := made(t, 9)
	d.Fuse(math.MaxInt)
	for range 99 {
		do(t, d.Sync())
	}
}

// 2.3: below 0 there is no fuse.
func TestNoFuse(t *testing.T) {
	for _, n := range []int{-1, -2, math.MinInt} {
		d := made(t, 9)
		d.Fuse(0)
		d.Fuse(n)
		for range 99 {
			do(t, d.Sync())
		}
		d.Fuse(2)
		do(t, d.Sync())
		d.Fuse(n)
		for range 99 {
			do(t, d.Sync())
		}
	}
}

// 2.3: Fuse and Room are done while it is down; neither brings it up.
func TestDownTakesFuseAndRoom(t *testing.T) {
	d := withFiles(t)
	d.Fuse(0)
	d.Sync()
	for _, n := range []int{-1, 0, 1, 9} {
		d.Fuse(n)
		isDown(t, d)
		if e := d.Sync(); e != api.ErrDown {
			t.Errorf("Fuse(%d): %d", n, e)
		}
	}
	if e := d.Room(-1); e != api.ErrArg {
		t.Errorf("Room(-1): %d", e)
	}
	if e := d.Room(api.MaxDisk + 1); e != api.ErrArg {
		t.Errorf("Room above MaxDisk: %d", e)
	}
	do(t, d.Room(6))
	isDown(t, d)
	if d.Crash(-1, 0) != 2 || d.Down() {
		t.Error("a crash brings it up")
	}
	if e := d.Append("a", []byte("12")); e != api.ErrFull {
		t.Errorf("the room that was set while it was down: %d", e)
	}
	put(t, d, "a", "1")
	do(t, d.Sync())
	holds(t, d, "a=xyz1", "b=12")
}
