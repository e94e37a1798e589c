package disk_test

import (
	"bytes"
	"testing"
)

// R2, and 2.1: the bytes that are handed in are the caller's, ahead of a sync, behind it and behind a crash.
func TestHandedInIsTheCallers(t *testing.T) {
	for _, name := range []string{"a", "new"} {
		d := made(t, 99)
		put(t, d, "a", "")
		b := []byte("xyz, and spare room")
		handed := b[:3]
		do(t, d.Append(name, handed))
		put(t, d, name, "12")
		if string(b) != "xyz, and spare room" {
			t.Errorf("changed to %q", b)
		}
		for i := range b {
			b[i] = 'q'
		}
		if got, _ := d.Read(name); string(got) != "xyz12" {
			t.Errorf("kept: %q", got)
		}
		d.Crash(3, 0)
		if got, _ := d.Read(name); string(got) != "xyz12" {
			t.Errorf("kept for a crash: %q", got)
		}
	}
}

// R2: what is torn off is of what was handed in, not of what became of it.
func TestTornOfWhatWasHandedIn(t *testing.T) {
	d := made(t, 99)
	b := []byte("xyz")
	do(t, d.Append("a", b))
	copy(b, "qqq")
	d.Crash(0, 2)
	holds(t, d, "a=xy")
}

// R2: what is told is the caller's, its spare room too.
func TestToldIsTheCallers(t *testing.T) {
	d := made(t, 99)
	put(t, d, "a", "xyz")
	put(t, d, "b", "1")
	spoil := func() {
		for _, name := range d.Names() {
			b, _ := d.Read(name)
			whole := b[:cap(b)]
			for i := range whole {
				whole[i] = 'q'
			}
		}
		names := d.Names()
		for i := range names {
			names[i] = "q"
		}
	}
	spoil()
	holds(t, d, "a=xyz", "b=1")
	do(t, d.Sync())
	spoil()
	put(t, d, "a", "12")
	spoil()
	do(t, d.Truncate("a", 4))
	spoil()
	holds(t, d, "a=xyz1", "b=1")
	d.Crash(0, 1)
	spoil()
	holds(t, d, "a=xyz1", "b=1")
	d.Crash(0, 0)
	holds(t, d, "a=xyz1", "b=1")
}

// R2: what was told stays as it was told.
func TestToldStays(t *testing.T) {
	d := made(t, 99)
	put(t, d, "a", "xyz")
	told, _ := d.Read("a")
	names := d.Names()
	do(t, d.Truncate("a", 0))
	put(t, d, "a", "123")
	put(t, d, "A", "456")
	if !bytes.Equal(told, []byte("xyz")) || names[0] != "a" || len(names) != 1 {
		t.Errorf("told %q of %q", told, names)
	}
}

// R8: what is done to one disk is not done to another.
func TestDisksAreAlone(t *testing.T) {
	one, other := made(t, 99), made(t, 99)
	put(t, one, "a", "xyz")
	do(t, one.Room(0))
	one.Fuse(0)
	one.Sync()
	holds(t, other)
	put(t, other, "a", "12")
	do(t, other.Sync())
	one.Crash(0, 1)
	holds(t, one, "a=x")
	holds(t, other, "a=12")
}
