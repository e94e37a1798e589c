package wal_test

import (
	"fmt"
	"math"
	"testing"

	"tailrace/api"
	"tailrace/disk"
	"tailrace/frame"
	"tailrace/wal"
)

// 5.2 and 5.3: the chapter's examples.
func TestExamples(t *testing.T) {
	d := made(t, 9999)
	l := opens(t, d, 4)
	appends(t, l, 5)
	if e := l.Append(batch(7)); e != api.ErrArg {
		t.Errorf("Append of epoch 7: %d", e)
	}
	l = opens(t, d, 4, 5)
	ok(t, l.Begin(6))
	stands(t, l, 5, 0)
	opens(t, d, 5)
}

// 5.3: frames of Lay in one file, called by the first epoch, each synced.
func TestAppend(t *testing.T) {
	d := made(t, 9999)
	put(t, d, "other", "x")
	l := opens(t, d, 4)
	for last := uint64(5); last <= 40; last++ {
		appends(t, l, last)
		all := records(t, fromTo(5, last)...)
		stands(t, l, last, len(all))
		d.Crash(0, 0)
		onDisk(t, d, files{"other": "x", wal.Name(5): all})
	}
	opens(t, d, 4, fromTo(5, 40)...)
	opens(t, d, 30, fromTo(31, 40)...)
}

// 5.3: the greatest batch, and the last epoch.
func TestAppendOfTheGreatest(t *testing.T) {
	d := made(t, 9999)
	l := opens(t, d, whole-1)
	b := rights()[len(rights())-1]
	ok(t, l.Append(b))
	stands(t, l, whole, len(laid(t, b))+around)
	for _, epoch := range []uint64{0, 1, whole, whole + 1} {
		if e := l.Append(batch(epoch)); e != api.ErrArg {
			t.Errorf("Append of epoch %d: %d", epoch, e)
		}
	}
	_, told, e := wal.Open(d, whole-1)
	if e != api.OK || len(told) != 1 || !same(told[0], b) {
		t.Errorf("Open: %+v, %d", told, e)
	}
}

// refusesWrong fails, if a journal whose last epoch is that takes a batch, or an epoch, that it must not, or if it does anything to the disk.
func refusesWrong(t *testing.T, d *disk.Disk, l *wal.Log, last uint64) {
	t.Helper()
	was, size := holds(d), l.Size()
	put(t, d, "pending", "x")
	for _, epoch := range []uint64{0, 1, last - 1, last, last + 2, last + 3, 2*last + 1, whole, whole + 1, 1 << 63, math.MaxUint64} {
		if epoch == last+1 {
			continue
		}
		if e := l.Append(batch(epoch)); e != api.ErrArg {
			t.Errorf("Last %d, Append of epoch %d: %d", last, epoch, e)
		}
		if e := l.Begin(epoch); e != api.ErrArg {
			t.Errorf("Last %d, Begin(%d): %d", last, epoch, e)
		}
	}
	for _, b := range wrongs() {
		if b.Epoch == 1 {
			b.Epoch = last + 1
		}
		if e := l.Append(b); e != api.ErrArg {
			t.Errorf("Last %d, Append of %+v: %d", last, b, e)
		}
	}
	stands(t, l, last, size)
	if n := d.Pending(); n != 1 {
		t.Errorf("%d are pending", n)
	}
	ok(t, d.Remove("pending"))
	ok(t, d.Sync())
	onDisk(t, d, was)
}

// 5.3: batches that are not right, and epochs that are not Last and 1, at every time of a journal.
func TestAppendAndBeginOfWrong(t *testing.T) {
	d := made(t, 1<<16)
	l := opens(t, d, 4)
	refusesWrong(t, d, l, 4)
	appends(t, l, 5)
	refusesWrong(t, d, l, 5)
	appends(t, l, 6, 7)
	refusesWrong(t, d, l, 7)
	ok(t, l.Begin(8))
	refusesWrong(t, d, l, 7)
	appends(t, l, 8)
	refusesWrong(t, d, l, 8)
	refusesWrong(t, d, opens(t, d, 7, 8), 8)
	refusesWrong(t, d, opens(t, d, 2), 2)
	appends(t, opens(t, d, 0), 1)
}

// 5.3: ErrArg is told though the disk would refuse, too, and the disk is not asked.
func TestWrongAheadOfTheDisk(t *testing.T) {
	d := made(t, 9999)
	l := opens(t, d, 4)
	d.Fuse(0)
	if e := l.Append(batch(6)); e != api.ErrArg || d.Down() {
		t.Errorf("Append: %d", e)
	}
	if e := l.Begin(6); e != api.ErrArg || d.Down() {
		t.Errorf("Begin: %d", e)
	}
	if e := l.Append(batch(5)); e != api.ErrDown {
		t.Errorf("Append: %d", e)
	}
}

// 5.3: Begin removes all files of the journal, and none beside; the next Append makes a new one.
func TestBegin(t *testing.T) {
	for _, c := range journals(t) {
		t.Run(c.name, func(t *testing.T) {
			d := holding(t, c.files)
			put(t, d, "other", "x")
			l := opens(t, d, c.after, c.want...)
			for range 2 {
				ok(t, l.Begin(c.last+1))
				stands(t, l, c.last, 0)
				onDisk(t, d, files{"other": "x"})
			}
			opens(t, d, c.last)
			if c.last > whole-2 {
				return
			}
			appends(t, l, c.last+1, c.last+2)
			all := records(t, c.last+1, c.last+2)
			onDisk(t, d, files{"other": "x", wal.Name(c.last + 1): all})
			stands(t, l, c.last+2, len(all))
			opens(t, d, c.last, c.last+1, c.last+2)
		})
	}
}

// 5.3: Begin syncs, though there is no file.
func TestBeginSyncs(t *testing.T) {
	d := made(t, 99)
	l := opens(t, d, 4)
	put(t, d, "other", "x")
	ok(t, l.Begin(5))
	onDisk(t, d, files{"other": "x"})
	stands(t, l, 4, 0)
}

// 5.3: behind a Begin, Opened behind another epoch than that, it goes on from there.
func TestOpenBehindBegin(t *testing.T) {
	for _, after := range []uint64{0, 2, 3, 4, 9, whole} {
		d := made(t, 999)
		l := opens(t, d, 0)
		appends(t, l, 1, 2, 3)
		ok(t, l.Begin(4))
		stands(t, opens(t, d, after), after, 0)
	}
}

// 5.3: rounds of batches and of Begin, each Opened anew.
func TestRounds(t *testing.T) {
	d := made(t, 1<<16)
	l := opens(t, d, 0)
	epoch := uint64(0)
	for round := range uint64(12) {
		began := epoch
		for range round {
			epoch++
			appends(t, l, epoch)
		}
		all := fromTo(began+1, epoch)
		stands(t, l, epoch, len(records(t, all...)))
		if round%3 == 1 {
			l = opens(t, d, began, all...)
		}
		opens(t, d, began, all...)
		ok(t, l.Begin(epoch+1))
		opens(t, d, epoch)
	}
}

// 5.3: of an Append that is ErrFull nothing is left, be there a file or none, and nothing is synced.
func TestAppendThatIsFull(t *testing.T) {
	for n := range uint64(4) {
		d := made(t, 9999)
		put(t, d, "other", "12345")
		l := opens(t, d, 4)
		appends(t, l, fromTo(5, 4+n)...)
		was := holds(d)
		size := l.Size()
		next := len(records(t, 5+n))
		for room := 0; room < 5+size+next; room += 1 + room/9 {
			ok(t, d.Room(room))
			refusesFull(t, d, l, 5+n)
			stands(t, l, 4+n, size)
		}
		ok(t, d.Room(5+size+next-1))
		refusesFull(t, d, l, 5+n)
		stands(t, l, 4+n, size)
		onDisk(t, d, was)
		opens(t, d, 4, fromTo(5, 4+n)...)
		ok(t, d.Room(5+size+next))
		appends(t, l, 5+n)
		stands(t, l, 5+n, size+next)
		opens(t, d, 4, fromTo(5, 5+n)...)
	}
}

// refusesFull fails, if an Append of that epoch is anything but ErrFull, or leaves anything on the disk.
func refusesFull(t *testing.T, d *disk.Disk, l *wal.Log, epoch uint64) {
	t.Helper()
	was, pending := holds(d), d.Pending()
	if e := l.Append(batch(epoch)); e != api.ErrFull {
		t.Fatalf("Append of epoch %d: %d, want ErrFull", epoch, e)
	}
	if d.Pending() != pending {
		t.Errorf("%d are pending, want %d", d.Pending(), pending)
	}
	ok(t, d.Sync())
	onDisk(t, d, was)
}

// 5.3: an Append that is ErrFull syncs nothing that was pending.
func TestFullSyncsNothing(t *testing.T) {
	d := made(t, 5)
	l := opens(t, d, 4)
	put(t, d, "other", "12345")
	if e := l.Append(batch(5)); e != api.ErrFull || d.Pending() != 1 {
		t.Errorf("%d, %d are pending", e, d.Pending())
	}
	d.Crash(0, 0)
	onDisk(t, d, files{})
}

// 5.3: a disk of too many files has no room for a new one, and room in one that is there.
func TestAppendAmongTooManyFiles(t *testing.T) {
	d := made(t, 99999)
	for i := range api.MaxFiles - 1 {
		put(t, d, fmt.Sprintf("other%d", i), "")
	}
	l := opens(t, d, 4)
	put(t, d, "one more", "")
	refusesFull(t, d, l, 5)
	stands(t, l, 4, 0)
	opens(t, d, 4)
	ok(t, d.Remove("one more"))
	appends(t, l, 5, 6)
	opens(t, d, 4, 5, 6)
	ok(t, l.Begin(7))
	put(t, d, "one more", "")
	refusesFull(t, d, l, 7)
	stands(t, l, 6, 0)
	ok(t, d.Remove("other3"))
	appends(t, l, 7, 8)
	opens(t, d, 6, 7, 8)
}

// 5.2: a journal may have as many files as a disk.
func TestOpenOfManyFiles(t *testing.T) {
	f := files{}
	size := 0
	for i := range uint64(api.MaxFiles) {
		f[wal.Name(1+2*i)] = records(t, 1+2*i, 2+2*i)
		size += len(f[wal.Name(1+2*i)])
	}
	d := holding(t, f)
	l := opens(t, d, 0, fromTo(1, 2*api.MaxFiles)...)
	stands(t, l, 2*api.MaxFiles, size)
	appends(t, l, 2*api.MaxFiles+1)
	f[wal.Name(2*api.MaxFiles-1)] += records(t, 2*api.MaxFiles+1)
	onDisk(t, d, f)
	l = opens(t, d, 100, fromTo(101, 2*api.MaxFiles+1)...)
	ok(t, l.Begin(2*api.MaxFiles+2))
	onDisk(t, d, files{})
}

// 5.2 and 5.3: batches with every edge of what is right, journaled and told as they were.
func TestEveryRightBatchIsJournaled(t *testing.T) {
	d := made(t, 99999)
	l := opens(t, d, 0)
	var all []byte
	for i, b := range rights() {
		b.Epoch = uint64(i + 1)
		ok(t, l.Append(b))
		all = append(all, frame.Frame(laid(t, b))...)
	}
	stands(t, l, uint64(len(rights())), len(all))
	onDisk(t, d, files{wal.Name(1): string(all)})
	_, told, e := wal.Open(d, 0)
	if e != api.OK || len(told) != len(rights()) {
		t.Fatalf("%d batches, %d", len(told), e)
	}
	for i, b := range rights() {
		b.Epoch = uint64(i + 1)
		if !same(told[i], b) {
			t.Errorf("%+v, want %+v", told[i], b)
		}
	}
}
