package snap_test

import (
	"math/rand"
	"slices"
	"testing"

	"tailrace/api"
	"tailrace/disk"
	"tailrace/snap"
)

// life is a disk, and what may be Opened of it.
type life struct {
	d     *disk.Disk
	may   []string
	count int // of what was saved, or was to be
}

func newLife(t testing.TB) *life {
	return &life{d: made(t, 1<<16), may: []string{none}}
}

// next tells the snapshot that is to be saved: no two are the same.
func (f *life) next() string {
	f.count++
	s := make([]byte, f.count%19)
	for i := range s {
		s[i] = byte(f.count >> (i % 3 * 8))
	}
	return string(s) + string([]byte{byte(f.count >> 8), byte(f.count)})
}

// play does one call: s saves, o opens.
func (f *life) play(t testing.TB, call byte) api.Errno {
	t.Helper()
	if call == 'o' {
		return f.open(t)
	}
	s := f.next()
	e := snap.Save(f.d, []byte(s))
	switch e {
	case api.OK:
		f.may = []string{s}
	case api.ErrDown:
		f.may = append(f.may, s)
	}
	return e
}

// open fails, if anything is Opened but what was saved last, or was being saved; from then on it is that.
func (f *life) open(t testing.TB) api.Errno {
	t.Helper()
	s, e := open(t, f.d)
	if e != api.OK {
		return e
	}
	if !slices.Contains(f.may, s) {
		t.Fatalf("Open: %q, want one of %q", s, f.may)
	}
	f.may = []string{s}
	return e
}

// 6.2: every call of a run at which the disk goes down, with every beginning of what is pending and of what is torn, and again while it goes on.
func TestEveryCrashOfOneRun(t *testing.T) {
	const calls = "ossosos"
	crash := func(n, keep, torn int) (*life, bool) {
		f := newLife(t)
		f.d.Fuse(n)
		e := playAll(t, f, calls)
		if e == api.OK {
			return f, true
		}
		fails(t, e, api.ErrDown)
		f.d.Crash(keep, torn)
		return f, false
	}
	for n := 0; ; n++ {
		if _, over := crash(n, 0, 0); over {
			return
		}
		for keep := range 3 {
			for torn := range 20 {
				f, _ := crash(n, keep, torn)
				ok(t, playAll(t, f, "oos"+calls))
				for m := range 7 {
					f, _ := crash(n, keep, torn)
					f.d.Fuse(m)
					playAll(t, f, "oss")
					f.d.Crash(torn, keep)
					ok(t, playAll(t, f, "oos"+calls))
				}
			}
		}
	}
}

// 6.2: long runs of picked calls, fuses, crashes and rooms.
func TestPickedRuns(t *testing.T) {
	kinds := [4]int{} // how often it was down, full, kept the old one, took the young one
	for seed := range int64(300) {
		pick := rand.New(rand.NewSource(seed))
		f := newLife(t)
		for range 150 {
			switch pick.Intn(12) {
			case 0, 1:
				f.d.Fuse(pick.Intn(8))
			case 2:
				ok(t, f.d.Room(pick.Intn(90)))
			}
			call := "sso"[pick.Intn(3)]
			switch e := f.play(t, call); {
			case e == api.ErrDown:
				kinds[0]++
				f.crashed(t, pick, &kinds)
			case e == api.ErrFull && call == 's':
				kinds[1]++
				ok(t, f.open(t))
			case e != api.OK:
				t.Fatalf("%c: %d", call, e)
			}
		}
		f.d.Crash(pick.Intn(9), 0)
		ok(t, f.open(t))
	}
	if slices.Min(kinds[:]) < 200 {
		t.Errorf("too few of some kind: %v", kinds)
	}
}

// crashed crashes a disk that is down, now and then in the midst of the Open, too.
func (f *life) crashed(t *testing.T, pick *rand.Rand, kinds *[4]int) {
	t.Helper()
	may := f.may
	f.d.Crash(pick.Intn(9), pick.Intn(99))
	f.d.Fuse(pick.Intn(3) - 1)
	for f.open(t) != api.OK {
		f.d.Crash(pick.Intn(9), pick.Intn(99))
	}
	f.d.Fuse(-1)
	if len(may) > 1 && f.may[0] == may[0] {
		kinds[2]++
	} else if len(may) > 1 {
		kinds[3]++
	}
}
