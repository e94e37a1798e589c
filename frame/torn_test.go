package frame_test

import (
	"bytes"
	"encoding/binary"
	"math/rand"
	"testing"

	"tailrace/frame"
	"tailrace/pack"
)

// 3.2: what was framed, one behind the other, is told again.
func TestFramedIsTold(t *testing.T) {
	var l [][]byte
	place := 0
	for n := range 300 {
		b := bytesOf(int64(n), n)
		l = append(l, b)
		place += n + around
		told(t, row(b), [][]byte{b}, n+around)
	}
	told(t, row(l...), l, place)
}

// 3.2: cut off anywhere, just the frames that are whole are told.
func TestCutAnywhere(t *testing.T) {
	l := [][]byte{[]byte("abc"), nil, bytesOf(3, 300), {0}, nil, []byte("de"), row(of("a", "bc")...)}
	all := row(l...)
	whole, place := 0, 0
	for k := range len(all) + 1 {
		if whole < len(l) && k == place+len(l[whole])+around {
			place = k
			whole++
		}
		told(t, all[:k], l[:whole], place)
	}
	if whole != len(l) {
		t.Errorf("%d of %d were whole", whole, len(l))
	}
}

// 3.1: of a frame in which a byte was turned, in any of its parts, nothing is told, nor of those behind it.
func TestTurnedByte(t *testing.T) {
	l := [][]byte{[]byte("abc"), nil, bytesOf(4, 40)}
	all := row(l...)
	place := 0
	for i, b := range l {
		end := place + len(b) + around
		for _, part := range []struct {
			name     string
			from, to int
		}{
			{"length", place, place + 4},
			{"bytes", place + 4, end - 6},
			{"real part", end - 6, end - 3},
			{"imaginary part", end - 3, end},
		} {
			for at := part.from; at < part.to; at++ {
				for turn := 1; turn < 256; turn++ {
					all[at] ^= byte(turn)
					if got, to := frame.List(all); to != place || len(got) != i {
						t.Errorf("frame %d, its %s, at %d by %d: %d frames, to %d", i, part.name, at, turn, len(got), to)
					}
					all[at] ^= byte(turn)
				}
			}
		}
		place = end
	}
	told(t, all, l, place)
}

// plain tells what List ought to: the frame at the beginning is sealed anew, and what is behind it asked again.
func plain(b []byte) ([][]byte, int) {
	if len(b) < 4 {
		return nil, 0
	}
	n := int64(binary.LittleEndian.Uint32(b))
	if n > 1<<22 || int64(len(b)) < n+10 {
		return nil, 0
	}
	inner := b[4 : 4+n]
	if !bytes.HasPrefix(b[4:], pack.Seal(inner)) {
		return nil, 0
	}
	l, place := plain(b[n+10:])
	return append([][]byte{inner}, l...), int(n) + 10 + place
}

// 3.1 and 3.2: files that were damaged in picked ways, held against the plainest walk.
func TestDamagedFiles(t *testing.T) {
	pick := rand.New(rand.NewSource(5))
	kinds := [2]int{}
	for range 4000 {
		var l [][]byte
		for range pick.Intn(6) {
			l = append(l, bytesOf(pick.Int63(), pick.Intn(30)))
		}
		b := row(l...)
		for range pick.Intn(3) {
			b = damaged(pick, b)
		}
		want, place := plain(b)
		told(t, b, want, place)
		if place == len(b) {
			kinds[0]++
		} else {
			kinds[1]++
		}
	}
	if kinds[0] < 400 || kinds[1] < 400 {
		t.Errorf("%d files were whole, %d not", kinds[0], kinds[1])
	}
}

// damaged turns a byte, cuts some off, takes some out, or puts some in.
func damaged(pick *rand.Rand, b []byte) []byte {
	at := pick.Intn(len(b) + 1)
	end := min(len(b), at+1+pick.Intn(12))
	switch pick.Intn(4) {
	case 0:
		if at < len(b) {
			b[at] ^= byte(1 + pick.Intn(255))
		}
		return b
	case 1:
		return b[:at]
	case 2:
		return append(bytes.Clone(b[:at]), b[end:]...)
	}
	extra := bytesOf(pick.Int63(), pick.Intn(12))
	return append(append(bytes.Clone(b[:at]), extra...), b[at:]...)
}
