package wal_test

import (
	"fmt"
	"math"
	"testing"

	"tailrace/api"
	"tailrace/frame"
	"tailrace/pack"
	"tailrace/wal"
)

// 5.2, and the chapter's example.
func TestName(t *testing.T) {
	for _, c := range []struct {
		epoch uint64
		want  string
	}{
		{0, "j000000000000000"}, {1, "j000000000000001"}, {5, "j000000000000005"}, {9, "j000000000000009"}, {10, "j00000000000000a"},
		{15, "j00000000000000f"}, {16, "j000000000000010"}, {0xabcdef, "j000000000abcdef"}, {0x123456789a, "j00000123456789a"},
		{whole - 1, "j00000ffffffffff"}, {whole, "j000010000000000"},
		{whole + 1, ""}, {whole + 2, ""}, {1 << 60, ""}, {math.MaxUint64, ""},
	} {
		if name := wal.Name(c.epoch); name != c.want {
			t.Errorf("Name(%d): %q, want %q", c.epoch, name, c.want)
		}
	}
}

// 5.2: names rise with their epochs.
func TestNamesRise(t *testing.T) {
	for epoch := uint64(0); epoch < whole; epoch += 1 + epoch/3 {
		if a, b := wal.Name(epoch), wal.Name(epoch+1); a >= b || len(a) != 16 || len(b) != 16 {
			t.Errorf("%q and %q", a, b)
		}
	}
}

// notOpen fails, if Open tells anything but that error.
func notOpen(t *testing.T, l *wal.Log, told []api.Batch, e, want api.Errno) {
	t.Helper()
	if l != nil || len(told) != 0 || e != want {
		t.Errorf("Open: %v, %v, %d, want %d", l, told, e, want)
	}
}

// 5.2: wrong arguments; nothing is done to the disk.
func TestOpenOfWrong(t *testing.T) {
	for _, after := range []uint64{0, 5, whole, whole + 1} {
		l, told, e := wal.Open(nil, after)
		notOpen(t, l, told, e, api.ErrArg)
	}
	was := files{wal.Name(1): records(t, 1, 2) + "torn", wal.Name(7): "x"}
	for _, after := range []uint64{whole + 1, whole + 2, 1 << 63, math.MaxUint64} {
		d := holding(t, was)
		put(t, d, "other", "x")
		d.Fuse(0)
		l, told, e := wal.Open(d, after)
		notOpen(t, l, told, e, api.ErrArg)
		if d.Down() || d.Pending() != 1 {
			t.Errorf("Open(%d) asked the disk: down %t, pending %d", after, d.Down(), d.Pending())
		}
		d.Crash(0, 0)
		onDisk(t, d, was)
	}
}

// 5.2: of a disk that is down, or goes down, no journal is told.
func TestOpenOfADiskThatIsDown(t *testing.T) {
	d := holding(t, files{wal.Name(1): records(t, 1)})
	d.Fuse(0)
	for range 2 {
		l, told, e := wal.Open(d, 0)
		notOpen(t, l, told, e, api.ErrDown)
	}
	l, told, e := wal.Open(d, whole+1)
	notOpen(t, l, told, e, api.ErrArg)
	d.Crash(0, 0)
	stands(t, opens(t, d, 0, 1), 1, len(records(t, 1)))
}

// 5.2: a journal of no file is empty, and Last is what it was opened behind.
func TestOpenOfNoFile(t *testing.T) {
	for _, after := range []uint64{0, 1, 4, whole - 1, whole} {
		d := made(t, 0)
		stands(t, opens(t, d, after), after, 0)
		onDisk(t, d, files{})
	}
}

// 5.2: whatever is pending is synced, though nothing was amiss.
func TestOpenSyncs(t *testing.T) {
	d := made(t, 9999)
	put(t, d, "other", "x")
	put(t, d, wal.Name(1), records(t, 1, 2))
	opens(t, d, 0, 1, 2)
	onDisk(t, d, files{"other": "x", wal.Name(1): records(t, 1, 2)})
	d.Crash(0, 0)
	onDisk(t, d, files{"other": "x", wal.Name(1): records(t, 1, 2)})
}

// journals tells what may stand on a disk, and what Open makes of it.
func journals(t testing.TB) []struct {
	name  string
	files files
	after uint64
	want  []uint64
	left  files
	last  uint64
} {
	r := func(epochs ...uint64) string { return records(t, epochs...) }
	n := wal.Name
	three := files{n(1): r(1, 2), n(3): r(3, 4), n(5): r(5)}
	return []struct {
		name  string
		files files
		after uint64
		want  []uint64
		left  files
		last  uint64
	}{
		{"one file", files{n(1): r(1, 2, 3)}, 0, fromTo(1, 3), files{n(1): r(1, 2, 3)}, 3},
		{"one file, a part of it", files{n(1): r(1, 2, 3)}, 2, fromTo(3, 3), files{n(1): r(1, 2, 3)}, 3},
		{"one file, none of it", files{n(1): r(1, 2, 3)}, 3, nil, files{n(1): r(1, 2, 3)}, 3},
		{"one file, behind it", files{n(1): r(1, 2, 3)}, 4, nil, files{}, 4},
		{"one file, far behind it", files{n(1): r(1, 2, 3)}, whole, nil, files{}, whole},
		{"one file, right ahead of it", files{n(5): r(5, 6)}, 4, fromTo(5, 6), files{n(5): r(5, 6)}, 6},
		{"one file, a hole ahead of it", files{n(5): r(5, 6)}, 3, nil, files{}, 3},
		{"one file, far ahead of it", files{n(5): r(5, 6)}, 0, nil, files{}, 0},
		{"the last epoch", files{n(whole): r(whole-1, whole)}, whole - 1, fromTo(whole, whole), files{n(whole): r(whole-1, whole)}, whole},
		{"behind the last epoch", files{n(whole): r(whole-1, whole)}, whole, nil, files{n(whole): r(whole-1, whole)}, whole},
		{"three files", three, 0, fromTo(1, 5), three, 5},
		{"three files, from the midst of the first", three, 1, fromTo(2, 5), three, 5},
		{"three files, from the second", three, 2, fromTo(3, 5), three, 5},
		{"three files, the last", three, 4, fromTo(5, 5), three, 5},
		{"three files, none", three, 5, nil, three, 5},
		{"three files, behind them", three, 6, nil, files{}, 6},
		{"three files, a hole ahead of them", files{n(3): r(3, 4), n(5): r(5), n(6): r(6)}, 1, nil, files{}, 1},
		{"an empty file", files{n(1): ""}, 0, nil, files{n(1): ""}, 0},
		{"an empty file, opened behind 7", files{n(1): ""}, 7, nil, files{n(1): ""}, 7},
		{"empty files between", files{n(1): "", n(2): r(1), n(3): "", n(4): r(2, 3), n(5): ""}, 0, fromTo(1, 3), files{n(1): "", n(2): r(1), n(3): "", n(4): r(2, 3), n(5): ""}, 3},
		{"names that are not of the first epoch", files{n(0): r(4), n(1): r(5), n(whole): r(6)}, 3, fromTo(4, 6), files{n(0): r(4), n(1): r(5), n(whole): r(6)}, 6},
		{"names with all digits", files{n(0x9): r(1), n(0xa): r(2), n(0xf): r(3), n(0x10): r(4)}, 0, fromTo(1, 4), files{n(0x9): r(1), n(0xa): r(2), n(0xf): r(3), n(0x10): r(4)}, 4},
		{"a hole in a file", files{n(1): r(1, 2, 4)}, 0, fromTo(1, 2), files{n(1): r(1, 2)}, 2},
		{"the same twice in a file", files{n(1): r(1, 2, 2, 3)}, 0, fromTo(1, 2), files{n(1): r(1, 2)}, 2},
		{"backward in a file", files{n(1): r(2, 1)}, 1, fromTo(2, 2), files{n(1): r(2)}, 2},
		{"a hole, opened behind it", files{n(1): r(1, 2, 4, 5)}, 4, nil, files{}, 4},
		{"a hole, opened at it", files{n(1): r(1, 2, 4, 5)}, 2, nil, files{n(1): r(1, 2)}, 2},
		{"a hole between files", files{n(1): r(1, 2), n(4): r(4), n(5): r(5)}, 0, fromTo(1, 2), files{n(1): r(1, 2), n(4): ""}, 2},
		{"the same in two files", files{n(1): r(1, 2), n(2): r(2, 3), n(4): r(3)}, 0, fromTo(1, 2), files{n(1): r(1, 2), n(2): ""}, 2},
		{"a file that is cut off ahead of others", files{n(1): r(1, 2) + r(3)[:9], n(3): r(3), n(4): r(4)}, 0, fromTo(1, 2), files{n(1): r(1, 2)}, 2},
		{"files that fit where others do not", files{n(1): r(1) + r(3), n(2): r(2), n(3): r(3)}, 0, fromTo(1, 1), files{n(1): r(1)}, 1},
		{"nothing fits in the first file", files{n(1): "x", n(2): r(1)}, 0, nil, files{n(1): ""}, 0},
		{"nothing fits in the midst", files{n(1): r(1), n(2): "x", n(3): r(2)}, 0, fromTo(1, 1), files{n(1): r(1), n(2): ""}, 1},
		{"cut, then all behind", files{n(1): r(1, 2) + "x", n(3): r(3), n(4): r(4)}, 3, nil, files{}, 3},
		{"cut, then a hole ahead", files{n(5): r(5), n(6): r(6) + "x", n(7): r(7)}, 3, nil, files{}, 3},
		{"cut in the second, then all", files{n(5): r(5), n(6): r(6) + "x", n(7): r(7)}, 4, fromTo(5, 6), files{n(5): r(5), n(6): r(6)}, 6},
	}
}

// sizeOf tells the bytes of all files.
func sizeOf(f files) int {
	n := 0
	for _, b := range f {
		n += len(b)
	}
	return n
}

// 5.2 and 5.3: what is told, what is left on the disk, Last and Size; opened anew it is the same.
func TestOpen(t *testing.T) {
	for _, c := range journals(t) {
		t.Run(c.name, func(t *testing.T) {
			d := holding(t, c.files)
			for range 3 {
				l := opens(t, d, c.after, c.want...)
				onDisk(t, d, c.left)
				stands(t, l, c.last, sizeOf(c.left))
			}
		})
	}
}

// 5.3: whatever was opened, one more batch is appended, to the last file, if there is one.
func TestAppendBehindOpen(t *testing.T) {
	for _, c := range journals(t) {
		if c.last == whole {
			continue
		}
		t.Run(c.name, func(t *testing.T) {
			d := holding(t, c.files)
			l := opens(t, d, c.after, c.want...)
			appends(t, l, c.last+1)
			left := files{}
			to := wal.Name(c.last + 1)
			for name, b := range c.left {
				left[name] = b
				if len(left) == 1 || name > to {
					to = name
				}
			}
			left[to] += records(t, c.last+1)
			onDisk(t, d, left)
			stands(t, l, c.last+1, sizeOf(left))
			opens(t, d, c.after, append(c.want, c.last+1)...)
		})
	}
}

// 5.2: files of other names are left alone, be there a journal or none.
func TestFilesOfOtherNames(t *testing.T) {
	others := files{}
	for _, name := range []string{
		"j", "other", "snap", "k000000000000001", "J000000000000001", "j00000000000001", "0j00000000000001", "j00000000000000A", "j00000000000000g",
		"j 00000000000001", "j+00000000000001", "j-00000000000001", "j0x0000000000001", "j0_0000000000001", "j00000000000001\x00", "j000010000000001", "j100000000000005", "jfffffffffffffff",
	} {
		others[name] = records(t, 1)
	}
	d := holding(t, others)
	stands(t, opens(t, d, 0), 0, 0)
	onDisk(t, d, others)
	for _, c := range journals(t) {
		was, left := files{}, files{}
		for name, b := range others {
			was[name], left[name] = b, b
		}
		for name, b := range c.files {
			was[name] = b
		}
		for name, b := range c.left {
			left[name] = b
		}
		d := holding(t, was)
		l := opens(t, d, c.after, c.want...)
		onDisk(t, d, left)
		stands(t, l, c.last, sizeOf(c.left))
		ok(t, l.Begin(c.last+1))
		onDisk(t, d, others)
	}
}

// misfits tells bytes that begin with no batch, wherever they stand.
func misfits(t testing.TB) files {
	f := files{}
	rec := records(t, 3)
	for k := 1; k < len(rec); k++ {
		f[fmt.Sprintf("cut off at %d", k)] = rec[:k]
	}
	for k := range len(rec) {
		b := []byte(rec)
		b[k] ^= 0x10
		f[fmt.Sprintf("turned at %d", k)] = string(b) + rec
	}
	x := string(laid(t, batch(3)))
	for name, b := range map[string]string{
		"no batch":           "",
		"a batch cut off":    x[:len(x)-1],
		"a batch with more":  x + "\x00",
		"a batch not right":  string(plain(3, 0, 1, 2, 1, 1, 0, "")),
		"flags of no batch":  string(plain(3, 0, 0, 0, 0, 0, 4, "")),
		"epoch 0":            string(plain(0, 0, 0, 0, 0, 0, 0, "")),
		"a time too great":   string(plain(3, api.MaxTime+1, 0, 0, 0, 0, 0, "")),
		"too many bytes":     string(plain(3, 0, 0, 0, 0, 0, 0, string(make([]byte, 513)))),
		"far too many bytes": string(make([]byte, 70000)),
	} {
		f[name] = string(frame.Frame([]byte(b))) + rec
	}
	f["a seal alone"] = string(pack.Seal([]byte(x)))
	f["a length above Most"] = "\x01\x00\x40\x00" + rec
	f["zeros"] = "\x00\x00\x00\x00\x00\x00\x00\x00\x00\x00"
	return f
}

// 5.2: at what does not fit, of whatever kind and wherever it stands, the journal ends.
func TestOpenEndsWhereSomethingDoesNotFit(t *testing.T) {
	r := func(epochs ...uint64) string { return records(t, epochs...) }
	n := wal.Name
	for name, bad := range misfits(t) {
		t.Run(name, func(t *testing.T) {
			for _, c := range []struct {
				files files
				want  []uint64
				left  files
			}{
				{files{n(1): bad}, nil, files{n(1): ""}},
				{files{n(1): bad, n(2): r(1)}, nil, files{n(1): ""}},
				{files{n(1): r(1, 2) + bad}, fromTo(1, 2), files{n(1): r(1, 2)}},
				{files{n(1): r(1, 2) + bad, n(3): r(3), n(4): r(4)}, fromTo(1, 2), files{n(1): r(1, 2)}},
				{files{n(1): r(1), n(2): r(2) + bad, n(3): r(3)}, fromTo(1, 2), files{n(1): r(1), n(2): r(2)}},
				{files{n(1): r(1, 2), n(3): bad, n(4): r(3)}, fromTo(1, 2), files{n(1): r(1, 2), n(3): ""}},
			} {
				d := holding(t, c.files)
				l := opens(t, d, 0, c.want...)
				onDisk(t, d, c.left)
				stands(t, l, uint64(len(c.want)), sizeOf(c.left))
			}
		})
	}
}
