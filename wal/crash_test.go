package wal_test

import (
	"math/rand"
	"slices"
	"testing"

	"tailrace/api"
	"tailrace/disk"
	"tailrace/wal"
)

// steps tells what is on a disk ahead of each call that is made to it, as fuses and crashes show it.
func steps(t *testing.T, was files, prepare func(d *disk.Disk) func() api.Errno) []files {
	t.Helper()
	var l []files
	for n := 0; ; n++ {
		d := holding(t, was)
		call := prepare(d)
		d.Fuse(n)
		e := call()
		if e == api.OK {
			return l
		}
		if e != api.ErrDown || d.Pending() != n {
			t.Fatalf("with a fuse of %d: %d, %d are pending", n, e, d.Pending())
		}
		d.Crash(n, 0)
		l = append(l, holds(d))
	}
}

func sameSteps(t *testing.T, got, want []files) {
	t.Helper()
	if len(got) != len(want) {
		t.Errorf("%d steps, want %d: %q", len(got), len(want), got)
		return
	}
	for i := range want {
		if len(got[i]) != len(want[i]) {
			t.Errorf("step %d: %q, want %q", i, got[i], want[i])
		}
		for name, b := range want[i] {
			if x, ok := got[i][name]; !ok || x != b {
				t.Errorf("step %d: %q, want %q", i, got[i], want[i])
			}
		}
	}
}

// 5.2: what does not belong to the journal goes file by file, the last one first, ahead of the cut; all that goes, goes behind it; then it syncs.
func TestOrderOfOpen(t *testing.T) {
	n := wal.Name
	r := func(epochs ...uint64) string { return records(t, epochs...) }
	a, b, c := r(5, 6), r(7), r(8, 9)
	for _, x := range []struct {
		after uint64
		want  []files // ahead of each call to the disk, the Sync as the last one
	}{
		{4, []files{{n(5): a, n(7): b, n(8): c}}},
		{9, []files{{n(5): a, n(7): b, n(8): c}}},
		{10, []files{{n(5): a, n(7): b, n(8): c}, {n(5): a, n(7): b}, {n(5): a}, {}}},
		{3, []files{{n(5): a, n(7): b, n(8): c}, {n(5): a, n(7): b}, {n(5): a}, {}}},
		{4, []files{{n(5): a + "x"}, {n(5): a}}},
		{4, []files{{n(5): a + "x", n(7): b, n(8): c}, {n(5): a + "x", n(7): b}, {n(5): a + "x"}, {n(5): a}}},
		{4, []files{{n(5): a, n(7): "x", n(8): b}, {n(5): a, n(7): "x"}, {n(5): a, n(7): ""}}},
		{3, []files{{n(5): a, n(7): b + "x", n(8): c}, {n(5): a, n(7): b + "x"}, {n(5): a, n(7): b}, {n(5): a}, {}}},
		{9, []files{{n(5): a, n(7): b + "x", n(8): c}, {n(5): a, n(7): b + "x"}, {n(5): a, n(7): b}, {n(5): a}, {}}},
		{7, []files{{n(5): a, n(7): b + "x", n(8): c}, {n(5): a, n(7): b + "x"}, {n(5): a, n(7): b}}},
	} {
		got := steps(t, x.want[0], func(d *disk.Disk) func() api.Errno {
			return func() api.Errno {
				_, _, e := wal.Open(d, x.after)
				return e
			}
		})
		sameSteps(t, got, x.want)
	}
}

// 5.3: Begin removes the first file first, then it syncs; an Append is an Append and a Sync.
func TestOrderOfBeginAndAppend(t *testing.T) {
	n := wal.Name
	r := func(epochs ...uint64) string { return records(t, epochs...) }
	a, b, c := r(5, 6), r(7), r(8, 9)
	for _, was := range []files{{n(5): a, n(7): b, n(8): c}, {n(5): a}, {}} {
		last := uint64(4)
		to := n(5)
		begun := []files{was}
		left := files{}
		for _, name := range slices.Backward([]string{n(5), n(7), n(8)}) {
			if x, ok := was[name]; ok {
				begun = slices.Insert(begun, 1, left)
				left = files{name: x}
				for k, v := range begun[1] {
					left[k] = v
				}
			}
		}
		switch len(was) {
		case 3:
			last, to = 9, n(8)
		case 1:
			last = 6
		}
		open := func(d *disk.Disk) *wal.Log { return opens(t, d, 4, fromTo(5, last)...) }
		sameSteps(t, steps(t, was, func(d *disk.Disk) func() api.Errno {
			l := open(d)
			return func() api.Errno { return l.Begin(last + 1) }
		}), begun)
		more := files{to: was[to] + r(last+1)}
		for name, x := range was {
			if name != to {
				more[name] = x
			}
		}
		sameSteps(t, steps(t, was, func(d *disk.Disk) func() api.Errno {
			l := open(d)
			return func() api.Errno { return l.Append(batch(last + 1)) }
		}), []files{was, more})
	}
}

// 5.2: in whatever call of an Open the disk goes down, and however much of it is left, Opened anew it is the same journal.
func TestCrashInOpen(t *testing.T) {
	for _, c := range journals(t) {
		t.Run(c.name, func(t *testing.T) {
			for n := 0; ; n++ {
				for keep := range n + 1 {
					d := holding(t, c.files)
					d.Fuse(n)
					if l, _, e := wal.Open(d, c.after); e == api.OK {
						stands(t, l, c.last, sizeOf(c.left))
						return
					}
					d.Crash(keep, 0)
					l := opens(t, d, c.after, c.want...)
					if l.Last() != c.last {
						t.Errorf("fuse %d, keep %d: Last %d, want %d", n, keep, l.Last(), c.last)
					}
					if c.last < whole {
						appends(t, l, c.last+1)
						opens(t, d, c.after, append(c.want, c.last+1)...)
					}
				}
			}
		})
	}
}

// 5.4: in whatever call of a Begin the disk goes down, and however much of it is left, it goes on behind the last batch.
func TestCrashInBegin(t *testing.T) {
	for _, c := range journals(t) {
		if c.last == whole {
			continue
		}
		t.Run(c.name, func(t *testing.T) {
			for n := 0; n <= len(c.left); n++ {
				for keep := range n + 1 {
					d := holding(t, c.files)
					l := opens(t, d, c.after, c.want...)
					d.Fuse(n)
					if e := l.Begin(c.last + 1); e != api.ErrDown {
						t.Fatalf("fuse %d: Begin: %d", n, e)
					}
					d.Crash(keep, 0)
					l = opens(t, d, c.last)
					appends(t, l, c.last+1)
					stands(t, opens(t, d, c.last, c.last+1), c.last+1, l.Size())
				}
			}
		})
	}
}

// 5.4: the file cut off at every place of the last record, be it the first one or another.
func TestTornAppend(t *testing.T) {
	for n := range uint64(9) {
		rec := records(t, n+1)
		for torn := range len(rec) {
			for keep := range 2 {
				d := made(t, 9999)
				l := opens(t, d, 0)
				appends(t, l, fromTo(1, n)...)
				left := holds(d)
				d.Fuse(1)
				if e := l.Append(batch(n + 1)); e != api.ErrDown || d.Pending() != 1 {
					t.Fatalf("Append: %d, %d are pending", e, d.Pending())
				}
				d.Crash(keep, torn)
				all := fromTo(1, n+uint64(keep))
				if keep == 1 {
					left[wal.Name(1)] += rec
				} else if n == 0 && torn > 0 {
					left[wal.Name(1)] = ""
				}
				l = opens(t, d, 0, all...)
				onDisk(t, d, left)
				stands(t, l, uint64(len(all)), sizeOf(left))
				appends(t, l, uint64(len(all))+1)
				opens(t, d, 0, fromTo(1, uint64(len(all))+1)...)
			}
		}
	}
}

// 5.4: an Append that finds the disk down leaves nothing.
func TestAppendOnADiskThatIsDown(t *testing.T) {
	d := made(t, 9999)
	l := opens(t, d, 0)
	appends(t, l, 1, 2)
	d.Fuse(0)
	for range 3 {
		if e := l.Append(batch(3)); e != api.ErrDown {
			t.Errorf("Append: %d", e)
		}
		if e := l.Begin(3); e != api.ErrDown {
			t.Errorf("Begin: %d", e)
		}
	}
	d.Crash(1, 1)
	onDisk(t, d, files{wal.Name(1): records(t, 1, 2)})
	opens(t, d, 0, 1, 2)
}

// life is a journal, and what ought to be in it.
type life struct {
	d     *disk.Disk
	l     *wal.Log
	after uint64   // what stands in the snapshot
	since []uint64 // the epochs behind it
	maybe bool     // may there be one more?
}

func newLife(t testing.TB) *life {
	f := &life{d: made(t, 1<<16)}
	f.l = opens(t, f.d, 0)
	return f
}

func (f *life) next() uint64 { return f.after + uint64(len(f.since)) + 1 }

// play does one call: a appends, b begins anew, o opens.
func (f *life) play(t testing.TB, call byte) api.Errno {
	t.Helper()
	next := f.next()
	switch call {
	case 'a':
		e := f.l.Append(batch(next))
		if e == api.OK {
			f.since = append(f.since, next)
		}
		f.maybe = e == api.ErrDown
		return e
	case 'b':
		f.after, f.since = next-1, nil
		return f.l.Begin(next)
	}
	return f.open(t)
}

// open opens the journal, and fails, if it tells anything but what was appended since the last Begin, perhaps but the last one.
func (f *life) open(t testing.TB) api.Errno {
	t.Helper()
	l, told, e := wal.Open(f.d, f.after)
	if e != api.OK {
		return e
	}
	if f.maybe && len(told) == len(f.since)+1 {
		f.since = append(f.since, f.next())
	}
	f.maybe = false
	if !slices.EqualFunc(told, batches(f.since...), same) || l.Last() != f.next()-1 {
		t.Fatalf("Open(%d): %+v, Last %d, want %v", f.after, told, l.Last(), f.since)
	}
	f.l = l
	return e
}

// playAll plays calls till one is not OK.
func (f *life) playAll(t testing.TB, calls string) api.Errno {
	t.Helper()
	for _, call := range []byte(calls) {
		if e := f.play(t, call); e != api.OK {
			return e
		}
	}
	return api.OK
}

// 5.4 and W5: every call of a run at which the disk goes down, with every beginning of what is pending and of what is torn.
func TestEveryCrashOfOneRun(t *testing.T) {
	const calls = "aaoabaaaobobaaoa"
	for n := 0; ; n++ {
		f := newLife(t)
		f.d.Fuse(n)
		if f.playAll(t, calls) == api.OK {
			break
		}
		pending := f.d.Pending()
		for keep := range pending + 1 {
			for torn := range len(records(t, f.next())) {
				f := newLife(t)
				f.d.Fuse(n)
				if e := f.playAll(t, calls); e != api.ErrDown || f.d.Pending() != pending {
					t.Fatalf("fuse %d: %d, %d are pending", n, e, f.d.Pending())
				}
				f.d.Crash(keep, torn)
				ok(t, f.playAll(t, "oaaoba"+calls))
			}
		}
	}
}

// 5.4 and W5: a crash in an Append, and another one while it is Opened.
func TestCrashBehindCrash(t *testing.T) {
	for n := range 8 {
		for torn := range 20 {
			for m := range 3 {
				f := newLife(t)
				f.d.Fuse(n)
				if e := f.playAll(t, "aaaaaaa"); e != api.ErrDown {
					t.Fatalf("fuse %d: %d", n, e)
				}
				f.d.Crash(0, torn)
				f.d.Fuse(m)
				f.open(t)
				f.d.Crash(torn, torn)
				ok(t, f.playAll(t, "oaaobaao"))
			}
		}
	}
}

// 5.4 and W5: long runs of picked calls, fuses, crashes and rooms.
func TestPickedRuns(t *testing.T) {
	down, full := 0, 0
	for seed := range int64(300) {
		pick := rand.New(rand.NewSource(seed))
		f := newLife(t)
		for range 120 {
			switch pick.Intn(12) {
			case 0:
				f.d.Fuse(pick.Intn(6))
			case 1:
				ok(t, f.d.Room(pick.Intn(400)))
			}
			call := "aaaaaabo"[pick.Intn(8)]
			switch e := f.play(t, call); {
			case e == api.ErrDown:
				down++
				f.d.Crash(pick.Intn(9), pick.Intn(99))
				// It may crash again while it is opened.
				f.d.Fuse(pick.Intn(5) - 1)
				for f.open(t) != api.OK {
					f.d.Crash(pick.Intn(9), pick.Intn(99))
				}
				f.d.Fuse(-1)
			case e == api.ErrFull && call == 'a':
				full++
			case e != api.OK:
				t.Fatalf("%c: %d", call, e)
			}
		}
		f.d.Crash(0, 0)
		ok(t, f.open(t))
	}
	if down < 500 || full < 500 {
		t.Errorf("%d were down, %d full", down, full)
	}
}
