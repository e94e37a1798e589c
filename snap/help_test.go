package snap_test

import (
	"maps"
	"slices"
	"strings"
	"testing"

	"tailrace/api"
	"tailrace/disk"
	"tailrace/frame"
	"tailrace/snap"
)

// around is how many bytes a frame has beside those that are framed.
const around = 10

// none stands for no snapshot.
const none = "-"

// files are the bytes of a disk's files by their names.
type files map[string]string

func framed(s string) string { return string(frame.Frame([]byte(s))) }

// saved tells the files of a disk on which a snapshot stands beside others.
func saved(s string, others files) files {
	f := maps.Clone(others)
	if f == nil {
		f = files{}
	}
	if s != none {
		f["snap"] = framed(s)
	}
	return f
}

// and tells files, and one more.
func (f files) and(name, b string) files {
	more := files{name: b}
	for name, b := range f {
		if _, ok := more[name]; !ok {
			more[name] = b
		}
	}
	return more
}

// without tells files but one.
func (f files) without(name string) files {
	less := maps.Clone(f)
	delete(less, name)
	return less
}

// many tells n files of a byte.
func many(n int) files {
	f := files{}
	for i := range n {
		f["f"+strings.Repeat("x", i%15)+string(rune('0'+i/15))] = "1"
	}
	return f
}

func (f files) size() int {
	n := 0
	for _, b := range f {
		n += len(b)
	}
	return n
}

func made(t testing.TB, room int) *disk.Disk {
	t.Helper()
	d, e := disk.New(room)
	if e != api.OK {
		t.Fatalf("New(%d): %d", room, e)
	}
	return d
}

// holding makes a disk with files that are synced.
func holding(t testing.TB, f files) *disk.Disk {
	t.Helper()
	d := made(t, api.MaxDisk)
	for _, name := range slices.Sorted(maps.Keys(f)) {
		put(t, d, name, f[name])
	}
	ok(t, d.Sync())
	return d
}

func put(t testing.TB, d *disk.Disk, name, b string) {
	t.Helper()
	ok(t, d.Append(name, []byte(b)))
}

func ok(t testing.TB, e api.Errno) {
	t.Helper()
	fails(t, e, api.OK)
}

func fails(t testing.TB, e, want api.Errno) {
	t.Helper()
	if e != want {
		t.Fatalf("error %d, want %d", e, want)
	}
}

// holds tells all that is on a disk.
func holds(d *disk.Disk) files {
	f := files{}
	for _, name := range d.Names() {
		b, _ := d.Read(name)
		f[name] = string(b)
	}
	return f
}

// onDisk fails, if there is anything but these files on a disk, or if other than so many changes are pending.
func onDisk(t testing.TB, d *disk.Disk, want files, pending int) {
	t.Helper()
	if got := holds(d); !maps.Equal(got, want) {
		t.Fatalf("on the disk: %.200q, want %.200q", got, want)
	}
	if n := d.Pending(); n != pending {
		t.Fatalf("%d are pending, want %d", n, pending)
	}
}

func saves(t testing.TB, d *disk.Disk, s string) {
	t.Helper()
	ok(t, snap.Save(d, []byte(s)))
}

func saveYoung(d *disk.Disk) api.Errno { return snap.Save(d, []byte("young")) }

// open tells what is Opened, and none, if nothing is; it fails, if there is anything beside a false or an error.
func open(t testing.TB, d *disk.Disk) (string, api.Errno) {
	t.Helper()
	b, is, e := snap.Open(d)
	if is && e == api.OK {
		return string(b), e
	}
	if b != nil || is {
		t.Fatalf("Open: %.99q, %t, %d", b, is, e)
	}
	return none, e
}

// opens fails, if anything but that is Opened.
func opens(t testing.TB, d *disk.Disk, want string) {
	t.Helper()
	got, e := open(t, d)
	if got != want || e != api.OK {
		t.Fatalf("Open: %.99q, %d, want %.99q", got, e, want)
	}
}

// notOpens fails, if anything but that error is told.
func notOpens(t testing.TB, d *disk.Disk, want api.Errno) {
	t.Helper()
	got, e := open(t, d)
	if got != none || e != want {
		t.Fatalf("Open: %.99q, %d, want %d", got, e, want)
	}
}

// player does calls that have a letter each.
type player interface {
	play(t testing.TB, call byte) api.Errno
}

// playAll plays calls till one is not OK.
func playAll(t testing.TB, p player, calls string) api.Errno {
	t.Helper()
	for _, call := range []byte(calls) {
		if e := p.play(t, call); e != api.OK {
			return e
		}
	}
	return api.OK
}
