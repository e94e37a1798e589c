package wal_test

import (
	"maps"
	"slices"
	"strings"
	"testing"

	"tailrace/api"
	"tailrace/disk"
	"tailrace/frame"
	"tailrace/wal"
)

// around is how many bytes a frame has beside those that are framed.
const around = 10

// files are the bytes of a disk's files by their names.
type files map[string]string

// batch makes a batch of an epoch, with bytes and flags of its own.
func batch(epoch uint64) api.Batch {
	text := strings.Repeat(string(rune('a'+epoch%26)), int(epoch%7))
	return api.Batch{Epoch: epoch, Time: epoch - epoch/3, From: 1, To: complex(1, float64(epoch)), Gap: epoch%5 == 0, Stop: epoch%3 == 0, Bytes: []byte(text)}
}

func batches(epochs ...uint64) []api.Batch {
	var l []api.Batch
	for _, epoch := range epochs {
		l = append(l, batch(epoch))
	}
	return l
}

// fromTo tells numbers, both ends included.
func fromTo(a, b uint64) []uint64 {
	var l []uint64
	for n := a; n <= b; n++ {
		l = append(l, n)
	}
	return l
}

// records tells the frames of batches of these epochs, one behind the other.
func records(t testing.TB, epochs ...uint64) string {
	t.Helper()
	var s strings.Builder
	for _, b := range batches(epochs...) {
		s.Write(frame.Frame(laid(t, b)))
	}
	return s.String()
}

func made(t testing.TB, room int) *disk.Disk {
	t.Helper()
	d, e := disk.New(room)
	if e != api.OK {
		t.Fatalf("New(%d): %d", room, e)
	}
	return d
}

// holding makes a disk with files that are synced.
func holding(t testing.TB, f files) *disk.Disk {
	t.Helper()
	d := made(t, 1<<20)
	for _, name := range slices.Sorted(maps.Keys(f)) {
		put(t, d, name, f[name])
	}
	ok(t, d.Sync())
	return d
}

func put(t testing.TB, d *disk.Disk, name, b string) {
	t.Helper()
	ok(t, d.Append(name, []byte(b)))
}

func ok(t testing.TB, e api.Errno) {
	t.Helper()
	if e != api.OK {
		t.Fatalf("error %d", e)
	}
}

// holds tells all that is on a disk.
func holds(d *disk.Disk) files {
	f := files{}
	for _, name := range d.Names() {
		b, _ := d.Read(name)
		f[name] = string(b)
	}
	return f
}

// onDisk fails, if there is anything but these files on a disk, or if something is pending.
func onDisk(t testing.TB, d *disk.Disk, want files) {
	t.Helper()
	if got := holds(d); !maps.Equal(got, want) {
		t.Errorf("on the disk: %q, want %q", got, want)
	}
	if n := d.Pending(); n != 0 {
		t.Errorf("%d are pending", n)
	}
}

// opens opens a journal, and fails, if it tells anything but the batches of these epochs.
func opens(t testing.TB, d *disk.Disk, after uint64, want ...uint64) *wal.Log {
	t.Helper()
	l, told, e := wal.Open(d, after)
	if l == nil || e != api.OK {
		t.Fatalf("Open(%d): %d", after, e)
	}
	if !slices.EqualFunc(told, batches(want...), same) {
		t.Errorf("Open(%d): %+v, want %v", after, told, want)
	}
	return l
}

// stands fails, if a journal tells anything but that.
func stands(t testing.TB, l *wal.Log, last uint64, size int) {
	t.Helper()
	if l.Last() != last || l.Size() != size {
		t.Errorf("Last %d, Size %d, want %d, %d", l.Last(), l.Size(), last, size)
	}
}

// appends appends batches of these epochs.
func appends(t testing.TB, l *wal.Log, epochs ...uint64) {
	t.Helper()
	for _, b := range batches(epochs...) {
		if e := l.Append(b); e != api.OK {
			t.Fatalf("Append of epoch %d: %d", b.Epoch, e)
		}
	}
}
