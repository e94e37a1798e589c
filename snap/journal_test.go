package snap_test

import (
	"math/rand"
	"strings"
	"testing"

	"tailrace/api"
	"tailrace/disk"
	"tailrace/snap"
	"tailrace/wal"
)

// keeper runs batches of a letter each: what it has run is kept in a snapshot, and behind that in a journal.
type keeper struct {
	d     *disk.Disk
	l     *wal.Log
	count int  // how many were run
	maybe bool // may one more have been journaled?
}

func newKeeper(t testing.TB) *keeper {
	k := &keeper{d: made(t, 1<<16)}
	ok(t, k.open(t))
	return k
}

// ran tells the letters of so many batches.
func ran(count int) string {
	var s strings.Builder
	for i := range count {
		s.WriteByte(byte('a' + i%26))
	}
	return s.String()
}

func letter(n int) api.Batch {
	all := ran(n)
	return api.Batch{Epoch: uint64(n), Bytes: []byte(all[n-1:])}
}

// play does one call: a journals a batch and runs it, s takes a snapshot, o opens.
func (k *keeper) play(t testing.TB, call byte) api.Errno {
	t.Helper()
	switch call {
	case 'a':
		e := k.l.Append(letter(k.count + 1))
		if e == api.OK {
			k.count++
		}
		k.maybe = e == api.ErrDown
		return e
	case 's':
		if e := snap.Save(k.d, []byte(ran(k.count))); e != api.OK {
			return e
		}
		return k.l.Begin(uint64(k.count) + 1)
	}
	return k.open(t)
}

// open goes on from what is on the disk, and fails, if that is anything but what was run, perhaps with the batch that was being journaled.
func (k *keeper) open(t testing.TB) api.Errno {
	t.Helper()
	b, _, e := snap.Open(k.d)
	if e != api.OK {
		return e
	}
	l, told, e := wal.Open(k.d, uint64(len(b)))
	if e != api.OK {
		return e
	}
	for _, x := range told {
		b = append(b, x.Bytes...)
	}
	if k.maybe && len(b) == k.count+1 {
		k.count++
	}
	k.maybe = false
	if string(b) != ran(k.count) || l.Last() != uint64(k.count) {
		t.Fatalf("%q was run, and %d is the last, want %q", b, l.Last(), ran(k.count))
	}
	k.l = l
	return api.OK
}

// W5: a snapshot and the journal behind it forget nothing, in whatever call the disk goes down, and however much of it is left.
func TestNothingIsForgotten(t *testing.T) {
	const calls = "saaosassaoaaasoa"
	for n := 0; ; n++ {
		k := newKeeper(t)
		k.d.Fuse(n)
		if playAll(t, k, calls) == api.OK {
			return
		}
		pending := k.d.Pending()
		for keep := range pending + 1 {
			for torn := range 30 {
				k := newKeeper(t)
				k.d.Fuse(n)
				fails(t, playAll(t, k, calls), api.ErrDown)
				k.d.Crash(keep, torn)
				ok(t, playAll(t, k, "oaoso"+calls))
			}
		}
	}
}

// W5: long runs of picked calls, fuses, crashes and rooms.
func TestNothingIsForgottenInPickedRuns(t *testing.T) {
	down, full := 0, 0
	for seed := range int64(150) {
		pick := rand.New(rand.NewSource(seed))
		k := newKeeper(t)
		for range 120 {
			switch pick.Intn(12) {
			case 0:
				k.d.Fuse(pick.Intn(9))
			case 1:
				ok(t, k.d.Room(pick.Intn(500)))
			}
			switch e := k.play(t, "aaasso"[pick.Intn(6)]); e {
			case api.ErrDown:
				down++
				k.d.Crash(pick.Intn(9), pick.Intn(99))
				k.d.Fuse(pick.Intn(5) - 1)
				for k.open(t) != api.OK {
					k.d.Crash(pick.Intn(9), pick.Intn(99))
				}
				k.d.Fuse(-1)
			case api.ErrFull:
				full++
			default:
				ok(t, e)
			}
		}
		k.d.Crash(0, 0)
		ok(t, k.open(t))
	}
	if down < 300 || full < 300 {
		t.Errorf("%d were down, %d full", down, full)
	}
}
