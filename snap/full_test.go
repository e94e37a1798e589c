package snap_test

import (
	"testing"

	"tailrace/api"
	"tailrace/disk"
)

// 6.1: Save with just the room that it needs, and with one byte less. A snap.new that is left gives its room back.
func TestSaveWithoutRoom(t *testing.T) {
	for _, c := range starts() {
		kept := c.files.without("snap.new")
		needs := kept.size() + len(framed("young"))
		d := holding(t, c.files)
		ok(t, d.Room(needs))
		ok(t, saveYoung(d))
		onDisk(t, d, kept.and("snap", framed("young")), 0)
		opens(t, d, "young")
		for _, room := range []int{needs - 1, kept.size(), 0} {
			fill := func(d *disk.Disk) api.Errno { return d.Room(room) }
			full(t, c.files, c.want, fill, func(d *disk.Disk) api.Errno { return d.Room(needs) })
		}
	}
}

// full fails, if a Save on a disk that is filled is anything but ErrFull, or if it leaves anything but what was saved last; when that is mended, it goes on.
func full(t *testing.T, was files, want string, fill, mend func(d *disk.Disk) api.Errno) {
	t.Helper()
	kept := was.without("snap.new")
	pending := len(was) - len(kept)
	for keep := range 2 {
		d := holding(t, was)
		ok(t, fill(d))
		for range 2 {
			fails(t, saveYoung(d), api.ErrFull)
			onDisk(t, d, kept, pending)
			opens(t, d, want)
			onDisk(t, d, kept, pending)
		}
		if d.Crash(keep, 0) == 0 {
			onDisk(t, d, was, 0)
		}
		opens(t, d, want)
		onDisk(t, d, kept, 0)
		fails(t, saveYoung(d), api.ErrFull)
		ok(t, mend(d))
		ok(t, saveYoung(d))
		opens(t, d, "young")
	}
}

// 6.1: Save on a disk that has as many files as may be, or one less; a snap.new that is left makes place for the new one.
func TestSaveWithTooManyFiles(t *testing.T) {
	nothing := func(d *disk.Disk) api.Errno { return api.OK }
	one := func(d *disk.Disk) api.Errno { return d.Remove(d.Names()[0]) }
	for _, c := range []struct {
		was  files
		want string
		full bool
	}{
		{saved("old", many(api.MaxFiles-1)), "old", true},
		{many(api.MaxFiles), none, true},
		{saved("old", many(api.MaxFiles-2)), "old", false},
		{many(api.MaxFiles - 1), none, false},
		{saved("old", many(api.MaxFiles-2)).and("snap.new", "left"), "old", false},
		{many(api.MaxFiles-1).and("snap.new", "left"), none, false},
	} {
		if c.full {
			full(t, c.was, c.want, nothing, one)
			continue
		}
		d := holding(t, c.was)
		opens(t, holding(t, c.was), c.want)
		ok(t, saveYoung(d))
		onDisk(t, d, c.was.without("snap.new").and("snap", framed("young")), 0)
		opens(t, d, "young")
	}
}
