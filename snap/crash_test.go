package snap_test

import (
	"maps"
	"testing"

	"tailrace/api"
	"tailrace/disk"
	"tailrace/snap"
)

// step is what there is on a disk ahead of one call that is made to it, and how much of it is pending.
type step struct {
	pending int
	files   files
}

// steps tells what a call does to a disk that has these files, as fuses and crashes show it.
func steps(t *testing.T, was files, call func(d *disk.Disk) api.Errno) []step {
	t.Helper()
	var l []step
	for n := 0; ; n++ {
		d := holding(t, was)
		d.Fuse(n)
		e := call(d)
		if e == api.OK {
			return l
		}
		fails(t, e, api.ErrDown)
		pending := d.Pending()
		d.Crash(pending, 0)
		l = append(l, step{pending, holds(d)})
	}
}

func sameSteps(t *testing.T, got, want []step) {
	t.Helper()
	if len(got) != len(want) {
		t.Fatalf("%d steps, want %d", len(got), len(want))
	}
	for i, x := range want {
		if got[i].pending != x.pending || !maps.Equal(got[i].files, x.files) {
			t.Errorf("step %d: %d are pending, %q, want %d, %q", i, got[i].pending, got[i].files, x.pending, x.files)
		}
	}
}

func justOpen(d *disk.Disk) api.Errno {
	_, _, e := snap.Open(d)
	return e
}

// 6.1: a Save is a Remove, if there is a snap.new, an Append, a Sync, a Rename and a Sync, and nothing else.
func TestOrderOfSave(t *testing.T) {
	for _, others := range []files{{}, otherFiles()} {
		for _, old := range []string{none, "", "old"} {
			was := saved(old, others)
			laid := was.and("snap.new", framed("young"))
			sameSteps(t, steps(t, was, saveYoung), []step{{0, was}, {1, laid}, {0, laid}, {1, saved("young", others)}})
			left := was.and("snap.new", "left")
			sameSteps(t, steps(t, left, saveYoung), []step{{0, left}, {1, was}, {2, laid}, {0, laid}, {1, saved("young", others)}})
		}
	}
}

// 6.1: an Open is a Remove and a Sync, if there is a snap.new, and nothing else.
func TestOrderOfOpen(t *testing.T) {
	for _, others := range []files{{}, otherFiles()} {
		for _, old := range []string{none, "", "old"} {
			was := saved(old, others)
			left := was.and("snap.new", framed("left"))
			sameSteps(t, steps(t, was, justOpen), nil)
			sameSteps(t, steps(t, left, justOpen), []step{{0, left}, {1, was}})
		}
	}
}

// start is a disk on which a Save or an Open may begin, and what is Opened of it.
type start struct {
	files files
	want  string
}

func starts() []start {
	others := otherFiles()
	var l []start
	for _, s := range []start{{files{}, none}, {saved("old", nil), "old"}, {saved("", nil), ""}, {files{"snap": "x"}, none}, {saved("old", others), "old"}} {
		l = append(l, s)
		for _, left := range []string{"", "left", framed("left"), framed("left")[:7], framed("young")} {
			l = append(l, start{s.files.and("snap.new", left), s.want})
		}
	}
	return l
}

// calls tells how often a Save asks the disk.
func (s start) calls() int {
	if _, left := s.files["snap.new"]; left {
		return 5
	}
	return 4
}

// 6.2: in whatever call of a Save the disk goes down, and however much of what is pending is left: it is the old one, or the young one, whole, and it goes on.
func TestCrashInSave(t *testing.T) {
	for _, c := range starts() {
		calls := c.calls()
		for n := range calls + 1 {
			for keep := range 4 {
				for torn := range len(framed("young")) {
					d := holding(t, c.files)
					d.Fuse(n)
					want := api.ErrDown
					if n == calls {
						want = api.OK
					}
					fails(t, saveYoung(d), want)
					pending := d.Pending()
					k := d.Crash(keep, torn)
					// All is over with the Rename, which is pending ahead of the last Sync.
					young := n == calls || n == calls-1 && k == 1
					if n == calls-1 && pending != 1 {
						t.Fatalf("%d are pending", pending)
					}
					stands, told := c.files.without("snap.new"), c.want
					if young {
						stands, told = stands.and("snap", framed("young")), "young"
					}
					opens(t, d, told)
					onDisk(t, d, stands, 0)
					saves(t, d, "next")
					opens(t, d, "next")
					onDisk(t, d, stands.and("snap", framed("next")), 0)
				}
			}
		}
	}
}

// 6.2: in whatever call of an Open the disk goes down, and however much of what is pending is left, Opened anew it is the same.
func TestCrashInOpen(t *testing.T) {
	for _, c := range starts() {
		if _, left := c.files["snap.new"]; !left {
			continue
		}
		for n := range 2 {
			for keep := range 3 {
				d := holding(t, c.files)
				d.Fuse(n)
				notOpens(t, d, api.ErrDown)
				if !d.Down() || d.Pending() != n {
					t.Fatalf("fuse %d: %d are pending", n, d.Pending())
				}
				k := d.Crash(keep, keep)
				if k == 1 {
					onDisk(t, d, c.files.without("snap.new"), 0)
				} else {
					onDisk(t, d, c.files, 0)
				}
				opens(t, d, c.want)
				onDisk(t, d, c.files.without("snap.new"), 0)
			}
		}
	}
}

// 6.2: what others did to the disk, and is pending still, crashes with a Save, ahead of its first Sync: it is the old one.
func TestCrashInSaveWithOthersPending(t *testing.T) {
	for _, c := range starts() {
		for n := range c.calls() - 2 {
			for keep := range 5 {
				for torn := range 9 {
					d := holding(t, c.files)
					put(t, d, "a", "abcd")
					d.Fuse(n)
					fails(t, saveYoung(d), api.ErrDown)
					d.Crash(keep, torn)
					opens(t, d, c.want)
				}
			}
		}
	}
}
