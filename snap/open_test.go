package snap_test

import (
	"math/rand"
	"testing"

	"tailrace/api"
	"tailrace/frame"
	"tailrace/pack"
)

// notSnapshot fails, if anything is told of a file snap of these bytes, or if it is turned.
func notSnapshot(t *testing.T, b string) {
	t.Helper()
	d := made(t, api.MaxDisk)
	put(t, d, "snap", b)
	for range 2 {
		opens(t, d, none)
	}
	onDisk(t, d, files{"snap": b}, 1)
}

// 6.1: of no file, and of an empty disk with and without room, there is no snapshot.
func TestOpenOfNoFile(t *testing.T) {
	for _, room := range []int{0, 1, api.MaxDisk} {
		d := made(t, room)
		opens(t, d, none)
		onDisk(t, d, files{}, 0)
	}
	d := holding(t, files{"other": framed("ab")})
	opens(t, d, none)
	onDisk(t, d, files{"other": framed("ab")}, 0)
}

// 6.1: a file snap that another has laid is a snapshot, if it is one whole frame.
func TestOpenOfAFrame(t *testing.T) {
	for _, s := range texts() {
		d := made(t, api.MaxDisk)
		put(t, d, "snap", framed(s))
		opens(t, d, s)
		onDisk(t, d, files{"snap": framed(s)}, 1)
	}
}

// 6.1: a file snap that is cut off, at every place.
func TestOpenOfWhatIsCutOff(t *testing.T) {
	for _, s := range []string{"", "a", "ab", "tailrace", framed("ab"), framed("") + framed("")} {
		b := framed(s)
		for k := range len(b) {
			notSnapshot(t, b[:k])
			// Cut off at its beginning it may begin with a frame that was saved: that has something behind it.
			notSnapshot(t, b[k+1:])
		}
	}
}

// 6.1: a file snap in which one byte is turned, to whatever it may be.
func TestOpenOfWhatIsTurned(t *testing.T) {
	for _, s := range []string{"", "ab", "\x00\x00\x00"} {
		for k := range framed(s) {
			for mask := 1; mask < 256; mask++ {
				b := []byte(framed(s))
				b[k] ^= byte(mask)
				notSnapshot(t, string(b))
			}
		}
	}
}

// 6.1: a file snap with something behind its frame, or ahead of it.
func TestOpenOfWhatHasMore(t *testing.T) {
	for _, s := range []string{"", "ab", "tailrace"} {
		b := framed(s)
		for x := range 256 {
			notSnapshot(t, b+string([]byte{byte(x)}))
			notSnapshot(t, string([]byte{byte(x)})+b)
		}
		for _, more := range []string{"\x00\x00\x00\x00", b, framed(""), framed("x"), framed("x")[:5], b + b, b[:len(b)-1], "snap"} {
			notSnapshot(t, b+more)
			notSnapshot(t, more+b)
		}
	}
}

// 6.1: bytes that are sealed, but not framed, or framed with a length that is not theirs.
func TestOpenOfOtherForms(t *testing.T) {
	seal := func(s string) string { return string(pack.Seal([]byte(s))) }
	for _, b := range []string{
		"", "ab", "\x00", "\x00\x00\x00\x00", "\x00\x00\x00\x00\x00\x00\x00\x00\x00\x00", seal(""), seal("ab"),
		"\x01\x00\x00\x00" + seal("ab"), "\x03\x00\x00\x00" + seal("ab"), "\x00\x00\x00\x02" + seal("ab"), "\x02\x00\x00\x80" + seal("ab"), "\xff\xff\xff\xff" + seal("ab"),
		"\x02\x00\x00" + seal("ab"), "\x02" + seal("ab"), "\x02\x00\x00\x00ab",
	} {
		notSnapshot(t, b)
	}
}

// 6.1: a frame of more than frame.Most bytes is none, though its length and its sum are right.
func TestOpenOfMoreThanMost(t *testing.T) {
	for _, n := range []int{frame.Most, frame.Most + 1} {
		d := made(t, api.MaxDisk)
		length := []byte{byte(n), byte(n >> 8), byte(n >> 16), byte(n >> 24)}
		put(t, d, "snap", string(length)+string(pack.Seal(make([]byte, n))))
		want := none
		if n == frame.Most {
			want = string(make([]byte, n))
		}
		opens(t, d, want)
	}
}

// 6.1: a file snap.new is Removed, whatever stands in it, and that is synced; it is no snapshot.
func TestOpenRemovesNew(t *testing.T) {
	for _, left := range []string{"", "left", framed("left"), framed("left")[:12], framed("left") + "x"} {
		for _, was := range []files{{}, saved("old", nil), saved("", nil), {"snap": "x"}, saved("old", otherFiles()), otherFiles()} {
			want := none
			if b, is := was["snap"]; is && b != "x" {
				want = b[4 : len(b)-6]
			}
			d := holding(t, was.and("snap.new", left))
			opens(t, d, want)
			onDisk(t, d, was, 0)
			d.Crash(0, 0)
			onDisk(t, d, was, 0)
			opens(t, d, want)
		}
	}
}

// 6.1: that a snap.new is Removed is synced, and all that is pending with it.
func TestOpenSyncsWhereNewIsLeft(t *testing.T) {
	d := holding(t, saved("old", files{"a": "1"}))
	put(t, d, "snap.new", "left")
	put(t, d, "a", "2")
	opens(t, d, "old")
	want := saved("old", files{"a": "12"})
	onDisk(t, d, want, 0)
	d.Crash(0, 0)
	onDisk(t, d, want, 0)
}

// 6.1: where there is no snap.new an Open asks the disk for nothing: what is pending stays so.
func TestOpenSyncsNothing(t *testing.T) {
	for _, want := range []string{none, "old"} {
		d := holding(t, saved(want, nil).and("snap.new", "left"))
		ok(t, d.Remove("snap.new"))
		put(t, d, "a", "1")
		d.Fuse(0)
		opens(t, d, want)
		onDisk(t, d, saved(want, files{"a": "1"}), 2)
		if d.Down() {
			t.Error("the disk was asked")
		}
		d.Crash(0, 0)
		onDisk(t, d, saved(want, nil).and("snap.new", "left"), 0)
	}
}

// 6.1 and 6.2: files snap that were damaged in picked ways are told, if they are one whole frame, and not else.
func TestDamagedSnapshots(t *testing.T) {
	pick := rand.New(rand.NewSource(6))
	told := 0
	for range 4000 {
		s := make([]byte, pick.Intn(40))
		pick.Read(s)
		b := framed(string(s))
		at := pick.Intn(len(b) + 1)
		switch pick.Intn(4) {
		case 0:
			b = b[:at]
		case 1:
			b = b[:at] + string(s[:pick.Intn(len(s)+1)]) + b[at:]
		case 2:
			b = b[:at] + b[min(len(b), at+pick.Intn(3)):]
		case 3:
			b = b[:at] + framed(string(s[:len(s)/2])) + b[at:]
		}
		if b != framed(string(s)) {
			// All that is whole is of the form of Frame: the bytes within, framed anew, are the same again.
			if len(b) >= around && b == framed(b[4:len(b)-6]) {
				t.Fatalf("%q is whole by chance", b)
			}
			notSnapshot(t, b)
			continue
		}
		told++
		d := holding(t, files{"snap": b})
		opens(t, d, string(s))
	}
	if told < 100 || told > 2000 {
		t.Errorf("%d were told", told)
	}
}
