package frame_test

import (
	"bytes"
	"testing"

	"tailrace/frame"
)

// spoil writes over bytes and over their spare room.
func spoil(b []byte) {
	whole := b[:cap(b)]
	for i := range whole {
		whole[i] = 'q'
	}
}

// R2: what is framed is the caller's, its spare room too, and so is the frame.
func TestFrameIsTheCallers(t *testing.T) {
	const text = "abc, and spare room"
	b := []byte(text)
	handed := b[:3]
	f := frame.Frame(handed)
	kept := bytes.Clone(f)
	if string(b) != text {
		t.Errorf("changed to %q", b)
	}
	spoil(b)
	if !bytes.Equal(f, kept) {
		t.Errorf("kept: %q", f)
	}
	copy(b, text)
	other := frame.Frame(handed)
	spoil(f)
	if string(b) != text || !bytes.Equal(other, kept) {
		t.Errorf("shared: %q, %q", b, other)
	}
	spoil(frame.Frame(nil))
	if f := frame.Frame(nil); string(f) != "\x00\x00\x00\x00\x01\x00\x00\x00\x00\x00" {
		t.Errorf("of none: % x", f)
	}
}

// R2: what is listed is not changed, spare room included, and not kept.
func TestListedIsTheCallers(t *testing.T) {
	b := append(row(of("abc", "", "de")...), "and spare room"...)
	kept := bytes.Clone(b)
	size := len(b) - len("and spare room")
	l, place := frame.List(b[:size])
	if !bytes.Equal(b, kept) {
		t.Errorf("changed to %q", b)
	}
	spoil(b)
	if place != size || len(l) != 3 || string(l[0]) != "abc" || len(l[1]) != 0 || string(l[2]) != "de" {
		t.Errorf("kept: %q, %d", l, place)
	}
}

// R2: what List tells is new memory, of each frame its own, spare room too.
func TestListSharesNothing(t *testing.T) {
	texts := []string{"abc", "", "abc", "de", ""}
	b := row(of(texts...)...)
	kept := bytes.Clone(b)
	for i := range texts {
		l, _ := frame.List(b)
		other, _ := frame.List(b)
		spoil(l[i])
		l[i] = append(l[i], "zzzzzzzzzzzzzzzz"...)
		if !bytes.Equal(b, kept) {
			t.Fatalf("frame %d is shared with what was listed: %q", i, b)
		}
		for k, want := range texts {
			if k != i && string(l[k]) != want {
				t.Errorf("frames %d and %d share: %q", i, k, l[k])
			}
			if string(other[k]) != want {
				t.Errorf("two answers share frame %d: %q", k, other[k])
			}
		}
	}
	l, _ := frame.List(b)
	rows := l[:cap(l)]
	clear(rows)
	told(t, b, of(texts...), len(b))
}
