package snap_test

import (
	"bytes"
	"testing"

	"tailrace/snap"
)

// spoil writes over bytes and over their spare room.
func spoil(b []byte) {
	all := b[:cap(b)]
	for i := range all {
		all[i] = 'q'
	}
}

// R2: what is saved is the caller's, spare room included: it is not changed, and not kept.
func TestSavedIsTheCallers(t *testing.T) {
	const text = "abc, and spare room"
	for n := range len(text) + 1 {
		given := []byte(text)
		d := made(t, 999)
		for range 2 {
			ok(t, snap.Save(d, given[:n]))
			if string(given) != text {
				t.Errorf("changed to %q", given)
			}
		}
		spoil(given)
		opens(t, d, text[:n])
		d.Crash(0, 0)
		opens(t, d, text[:n])
	}
}

// R2: what is told is the caller's, spare room included.
func TestToldIsTheCallers(t *testing.T) {
	for _, s := range []string{"abc", "", "a longer one, with spare room or none"} {
		d := made(t, 999)
		saves(t, d, s)
		b, _, _ := snap.Open(d)
		other, _, _ := snap.Open(d)
		spoil(b)
		b = append(b, "more"...)
		spoil(b)
		if string(other) != s {
			t.Errorf("two answers share: %q", other)
		}
		opens(t, d, s)
		onDisk(t, d, files{"snap": framed(s)}, 0)
	}
}

// R2: what was told may be saved again, and what was saved be turned.
func TestToldIsSaved(t *testing.T) {
	d := made(t, 999)
	saves(t, d, "abc")
	for range 3 {
		b, _, _ := snap.Open(d)
		kept := bytes.Clone(b)
		ok(t, snap.Save(d, b))
		if !bytes.Equal(b, kept) {
			t.Errorf("changed to %q", b)
		}
		spoil(b)
		opens(t, d, "abc")
	}
}
