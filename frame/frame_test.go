package frame_test

import (
	"bytes"
	"encoding/binary"
	"math/rand"
	"slices"
	"testing"

	"tailrace/frame"
	"tailrace/pack"
)

// around is how many bytes a frame has beside those that are framed.
const around = 10

// bytesOf makes n bytes, the same ones for the same seed.
func bytesOf(seed int64, n int) []byte {
	b := make([]byte, n)
	rand.New(rand.NewSource(seed)).Read(b)
	return b
}

// of makes bytes of texts.
func of(texts ...string) [][]byte {
	var l [][]byte
	for _, s := range texts {
		l = append(l, []byte(s))
	}
	return l
}

// row lays the frames of bytes, one behind the other.
func row(l ...[]byte) []byte {
	var b []byte
	for _, x := range l {
		b = append(b, frame.Frame(x)...)
	}
	return b
}

// told fails, if List tells of b anything but these and that place.
func told(t *testing.T, b []byte, want [][]byte, place int) {
	t.Helper()
	l, at := frame.List(b)
	if at != place || !slices.EqualFunc(l, want, bytes.Equal) {
		t.Errorf("of %d bytes: %d frames, to %d, want %d, to %d", len(b), len(l), at, len(want), place)
	}
}

// lengthOf lays a length, the lowest byte first.
func lengthOf(n uint32) []byte {
	return binary.LittleEndian.AppendUint32(nil, n)
}

// 3.1, and the chapter's example: frames byte by byte.
func TestFrameOfFewBytes(t *testing.T) {
	for _, c := range []struct{ b, want string }{
		{"", "\x00\x00\x00\x00\x01\x00\x00\x00\x00\x00"},
		{"a", "\x01\x00\x00\x00a\x63\x01\x00\x03\x00\x00"},
		{"\x00\x00", "\x02\x00\x00\x00\x00\x00\xfa\x02\x01\x09\x06\x00"},
	} {
		if f := frame.Frame([]byte(c.b)); string(f) != c.want {
			t.Errorf("Frame(%q): % x, want % x", c.b, f, c.want)
		}
	}
	if f := frame.Frame(nil); string(f) != "\x00\x00\x00\x00\x01\x00\x00\x00\x00\x00" {
		t.Errorf("Frame(nil): % x", f)
	}
}

// 3.1: the length in four bytes, the lowest first, and the Seal.
func TestFrameIsLengthAndSeal(t *testing.T) {
	for _, n := range []int{0, 1, 127, 128, 255, 256, 257, 65535, 65536, 70000, 1 << 20, frame.Most - 1, frame.Most} {
		b := bytesOf(int64(n), n)
		f := frame.Frame(b)
		if len(f) != n+around {
			t.Errorf("of %d bytes: %d", n, len(f))
			continue
		}
		if !bytes.Equal(f[:4], lengthOf(uint32(n))) || !bytes.Equal(f[4:], pack.Seal(b)) {
			t.Errorf("of %d bytes: % x .. % x", n, f[:4], f[len(f)-6:])
		}
	}
}

// 3.1: at most Most bytes are framed, and as many are told.
func TestFrameOfMost(t *testing.T) {
	if frame.Most != 4194304 {
		t.Errorf("Most: %d", frame.Most)
	}
	for _, n := range []int{frame.Most + 1, frame.Most + 2, 2 * frame.Most} {
		if f := frame.Frame(make([]byte, n)); len(f) != 0 {
			t.Errorf("of %d bytes: %d", n, len(f))
		}
	}
	most := bytesOf(1, frame.Most)
	told(t, row(most, []byte("a")), [][]byte{most, []byte("a")}, frame.Most+around+1+around)
}

// 3.1, and the chapter's example.
func TestList(t *testing.T) {
	told(t, append(row(of("a", "bc")...), 7), of("a", "bc"), 23)
	told(t, nil, nil, 0)
	told(t, []byte{}, nil, 0)
	told(t, row(nil), of(""), 10)
	told(t, row(of("", "", "")...), of("", "", ""), 30)
	told(t, row(of("a", "", "bc")...), of("a", "", "bc"), 33)
	big := bytesOf(2, 70000)
	told(t, row(big, []byte("a")), [][]byte{big, []byte("a")}, 70010+11)
}

// 3.1: what is framed may itself be frames, or look like the begin of one: it is told as it is.
func TestListOfFramesInFrames(t *testing.T) {
	inner := row(of("a", "bc")...)
	told(t, row(inner, inner), [][]byte{inner, inner}, 2*(len(inner)+around))
	like := []byte{1, 0, 0, 0}
	told(t, row(like, nil, like), [][]byte{like, nil, like}, 14+10+14)
}

// 3.1: the walk ends at the first place where no whole frame stands, however whole those behind it are.
func TestListEndsAtTheFirstHole(t *testing.T) {
	a, bc := frame.Frame([]byte("a")), frame.Frame([]byte("bc"))
	for _, hole := range []string{
		"\x00", "\x07", "\xff", "\x00\x00\x00", "\x00\x00\x00\x00",
		"\x00\x00\x00\x00\x00\x00\x00\x00\x00\x00", "\xff\xff\xff\xff\x01\x00\x00\x00\x00\x00",
	} {
		told(t, slices.Concat(a, []byte(hole), bc), of("a"), len(a))
		told(t, slices.Concat([]byte(hole), a, bc), nil, 0)
		told(t, slices.Concat(a, bc, []byte(hole)), of("a", "bc"), len(a)+len(bc))
	}
	torn := a[:len(a)-1]
	told(t, slices.Concat(bc, torn, bc), of("bc"), len(bc))
}

// 3.1: a length that is not that of the bytes whose Sum stands there, or of more than there are.
func TestListOfWrongLengths(t *testing.T) {
	whole := frame.Frame([]byte("abcdef"))
	a := frame.Frame([]byte("a"))
	for _, n := range []uint32{0, 1, 5, 7, 16, 17, 18, 255, 256 + 6, 65536 + 6, frame.Most, 1<<24 + 6, 1<<31 - 1, 1 << 31, 1<<31 + 6, 1<<32 - 10, 1<<32 - 1} {
		b := slices.Concat(a, lengthOf(n), whole[4:], a)
		told(t, b, of("a"), len(a))
	}
	told(t, slices.Concat(a, lengthOf(6), whole[4:], a), of("a", "abcdef", "a"), 2*len(a)+len(whole))
}

// 3.1: a length above Most is none, even where as many bytes and their Sum follow.
func TestListOfLengthsAboveMost(t *testing.T) {
	a := frame.Frame([]byte("a"))
	for _, n := range []int{frame.Most + 1, frame.Most + 256} {
		b := slices.Concat(a, lengthOf(uint32(n)), pack.Seal(make([]byte, n)), a)
		told(t, b, of("a"), len(a))
	}
}
