package snap_test

import (
	"strings"
	"testing"

	"tailrace/api"
	"tailrace/disk"
	"tailrace/frame"
	"tailrace/snap"
)

// The chapter's examples.
func TestExamples(t *testing.T) {
	d := made(t, 999)
	opens(t, d, none)
	saves(t, d, "ab")
	opens(t, d, "ab")
}

// 6.1: of no disk nothing is told, whatever else is wrong.
func TestNilDisk(t *testing.T) {
	notOpens(t, nil, api.ErrArg)
	for _, b := range [][]byte{nil, {}, []byte("ab"), make([]byte, frame.Most), make([]byte, frame.Most+1)} {
		fails(t, snap.Save(nil, b), api.ErrArg)
	}
}

// texts are snapshots of many kinds.
func texts() []string {
	var all strings.Builder
	for i := range 256 {
		all.WriteByte(byte(i))
	}
	return []string{
		"ab", "", "a", "\x00", "\x00\x00\x00\x00\x01\x00\x00\x00\x00\x00", "snap", framed(""), framed("ab"), framed("ab") + framed("cd"),
		all.String(), strings.Repeat("\xff", 300), strings.Repeat("tailrace ", 9000), "ab",
	}
}

// 6.1 and 6.2: what is saved is the one file of its name, framed and synced, and is told as often as it is asked.
func TestSave(t *testing.T) {
	for _, s := range texts() {
		d := made(t, api.MaxDisk)
		saves(t, d, s)
		onDisk(t, d, files{"snap": framed(s)}, 0)
		d.Crash(0, 0)
		for range 3 {
			opens(t, d, s)
			onDisk(t, d, files{"snap": framed(s)}, 0)
		}
	}
}

// 6.1 and 6.2: what is saved takes the place of what was saved ahead, be it longer or shorter.
func TestSaveAnew(t *testing.T) {
	d := made(t, api.MaxDisk)
	for range 2 {
		for _, s := range texts() {
			saves(t, d, s)
			onDisk(t, d, files{"snap": framed(s)}, 0)
			opens(t, d, s)
		}
	}
}

// 6.1: no bytes are a snapshot, too, whether they are nil or an empty list.
func TestSaveOfNoBytes(t *testing.T) {
	for _, b := range [][]byte{nil, {}, make([]byte, 0, 9)} {
		d := made(t, around)
		opens(t, d, none)
		ok(t, snap.Save(d, b))
		onDisk(t, d, files{"snap": "\x00\x00\x00\x00\x01\x00\x00\x00\x00\x00"}, 0)
		opens(t, d, "")
	}
}

// 6.1: frame.Most bytes are saved. Two of that size have no room on any disk: the second one is full, and the first one stays.
func TestSaveOfMost(t *testing.T) {
	b := make([]byte, frame.Most)
	for i := range b {
		b[i] = byte(i>>8) + byte(i)
	}
	d := made(t, api.MaxDisk)
	saves(t, d, "old")
	ok(t, snap.Save(d, b))
	onDisk(t, d, files{"snap": string(frame.Frame(b))}, 0)
	opens(t, d, string(b))
	fails(t, snap.Save(d, b), api.ErrFull)
	onDisk(t, d, files{"snap": string(frame.Frame(b))}, 0)
	opens(t, d, string(b))
	saves(t, d, "young")
	onDisk(t, d, files{"snap": framed("young")}, 0)
}

// 6.1: of more than frame.Most bytes nothing is done to the disk: it is not even asked.
func TestSaveOfMoreThanMost(t *testing.T) {
	for _, n := range []int{frame.Most + 1, frame.Most + 2, 1 << 23} {
		for _, left := range []files{saved("old", nil), saved("old", nil).and("snap.new", "left"), {}} {
			d := holding(t, left)
			put(t, d, "other", "x")
			d.Fuse(0)
			fails(t, snap.Save(d, make([]byte, n)), api.ErrLong)
			if d.Down() {
				t.Errorf("%d bytes: the disk was asked", n)
			}
			onDisk(t, d, left.and("other", "x"), 1)
			d.Crash(0, 0)
			onDisk(t, d, left, 0)
		}
	}
	d := made(t, 0)
	d.Fuse(0)
	fails(t, d.Sync(), api.ErrDown)
	fails(t, snap.Save(d, make([]byte, frame.Most+1)), api.ErrLong)
}

// 6.1: a file snap.new that was left behind goes ahead of a Save: what is saved does not stand behind its bytes.
func TestSaveWhereNewIsLeft(t *testing.T) {
	for _, left := range []string{"", "left", framed("left"), framed("left")[:9], framed("young") + framed("left"), strings.Repeat("x", 5000)} {
		for _, old := range []string{none, "", "old"} {
			d := holding(t, saved(old, nil).and("snap.new", left))
			saves(t, d, "young")
			onDisk(t, d, saved("young", nil), 0)
			opens(t, d, "young")
		}
	}
}

// 6.1: the Save of a disk on which a file snap is no snapshot.
func TestSaveOverWhatIsNoSnapshot(t *testing.T) {
	for _, b := range []string{"", "x", framed("old")[:12], framed("old") + "x"} {
		d := holding(t, files{"snap": b})
		opens(t, d, none)
		saves(t, d, "young")
		onDisk(t, d, saved("young", nil), 0)
		opens(t, d, "young")
	}
}

// otherFiles are called nearly as a snapshot is.
func otherFiles() files {
	f := files{}
	for _, name := range []string{"sna", "snap ", "snap.", "snap.ne", "snap.new2", "snap.new.new", "Snap", "SNAP", "xsnap", "snap.old", "new", ".new", "snap\x00", "ack", "ack.new", "j000000000000001"} {
		f[name] = framed("other " + name)
	}
	return f
}

// 6.1: files of other names are left alone, and are no snapshots.
func TestFilesOfOtherNames(t *testing.T) {
	others := otherFiles()
	d := holding(t, others)
	opens(t, d, none)
	onDisk(t, d, others, 0)
	for _, s := range []string{"old", "", "young"} {
		saves(t, d, s)
		onDisk(t, d, saved(s, others), 0)
		opens(t, d, s)
		put(t, d, "snap.new", "left")
		opens(t, d, s)
		onDisk(t, d, saved(s, others), 0)
	}
}

// 6.1: a Save syncs all that is pending, and what is removed ahead of it stays so.
func TestSaveSyncsAll(t *testing.T) {
	d := holding(t, saved("old", files{"a": "1", "b": "2"}))
	put(t, d, "a", "3")
	ok(t, d.Remove("b"))
	ok(t, d.Rename("snap", "c"))
	saves(t, d, "young")
	want := saved("young", files{"a": "13", "c": framed("old")})
	onDisk(t, d, want, 0)
	d.Crash(0, 0)
	onDisk(t, d, want, 0)
}

// 6.1: what is removed, or renamed, from under a snapshot is no snapshot any more.
func TestOpenBehindOthers(t *testing.T) {
	d := holding(t, saved("old", nil))
	ok(t, d.Rename("snap", "other"))
	opens(t, d, none)
	ok(t, d.Rename("other", "snap"))
	opens(t, d, "old")
	ok(t, d.Truncate("snap", around))
	opens(t, d, none)
	ok(t, d.Remove("snap"))
	opens(t, d, none)
	put(t, d, "snap", framed("young"))
	opens(t, d, "young")
	onDisk(t, d, saved("young", nil), 5)
	d.Crash(0, 0)
	opens(t, d, "old")
}

// 6.1: on a disk that is down there are no files: no snapshot is told, and nothing can be saved. Behind a crash all is as it was.
func TestDiskThatIsDown(t *testing.T) {
	for _, was := range []files{{}, saved("old", nil), saved("old", nil).and("snap.new", "left")} {
		d := holding(t, was)
		d.Fuse(0)
		fails(t, d.Sync(), api.ErrDown)
		for range 2 {
			opens(t, d, none)
			fails(t, snap.Save(d, []byte("young")), api.ErrDown)
		}
		d.Crash(0, 0)
		onDisk(t, d, was, 0)
	}
}

// R8: what is done to one disk is not seen on another.
func TestDisksKnowNothingOfOneAnother(t *testing.T) {
	a, b := made(t, 999), made(t, 999)
	saves(t, a, "of a")
	opens(t, b, none)
	saves(t, b, "of b")
	a.Fuse(0)
	fails(t, snap.Save(a, nil), api.ErrDown)
	saves(t, b, "of b, too")
	a.Crash(0, 0)
	opens(t, a, "of a")
	opens(t, b, "of b, too")
	var l []*disk.Disk
	for _, s := range texts() {
		l = append(l, made(t, api.MaxDisk))
		saves(t, l[len(l)-1], s)
	}
	for i, s := range texts() {
		opens(t, l[i], s)
	}
}
