package wal_test

import (
	"encoding/binary"
	"maps"
	"math/rand"
	"slices"
	"strings"
	"testing"

	"tailrace/api"
	"tailrace/frame"
	"tailrace/wal"
)

// firstOf tells the batch whose frame a file begins with, and how many bytes that has; 0, if there is none.
func firstOf(file string) (api.Batch, int) {
	if len(file) < around {
		return api.Batch{}, 0
	}
	n := int64(binary.LittleEndian.Uint32([]byte(file)))
	if n+around > int64(len(file)) {
		return api.Batch{}, 0
	}
	x := file[4 : 4+n]
	if !strings.HasPrefix(file, string(frame.Frame([]byte(x)))) {
		return api.Batch{}, 0
	}
	b, e := wal.Read([]byte(x))
	if e != api.OK {
		return api.Batch{}, 0
	}
	return b, int(n) + around
}

// plainOpen tells what Open ought to tell, and to leave: it eats the files from the left, and then looks what is left of them.
func plainOpen(was files, after uint64) (told []api.Batch, left files, last uint64) {
	left = files{}
	var all []api.Batch
	for _, name := range slices.Sorted(maps.Keys(was)) {
		rest := was[name]
		for rest != "" {
			b, size := firstOf(rest)
			if size == 0 || len(all) > 0 && all[len(all)-1].Epoch+1 != b.Epoch {
				break
			}
			all = append(all, b)
			rest = rest[size:]
		}
		left[name] = strings.TrimSuffix(was[name], rest)
		if rest != "" {
			break
		}
	}
	if len(all) == 0 {
		return nil, left, after
	}
	first, last := all[0].Epoch, all[len(all)-1].Epoch
	if first > after+1 || last < after {
		return nil, files{}, after
	}
	return all[after+1-first:], left, last
}

// damaged turns a byte of a file, cuts some off, takes some out, or puts some in.
func damaged(pick *rand.Rand, s string) string {
	at := pick.Intn(len(s) + 1)
	end := min(len(s), at+1+pick.Intn(40))
	switch pick.Intn(4) {
	case 0:
		b := []byte(s)
		if at < len(b) {
			b[at] ^= byte(1 + pick.Intn(255))
		}
		return string(b)
	case 1:
		return s[:at]
	case 2:
		return s[:at] + s[end:]
	}
	return s[:at] + string(bytesOf(pick.Int63(), pick.Intn(12))) + s[at:]
}

// picked makes a journal, with some damage.
func picked(t *testing.T, pick *rand.Rand) files {
	f := files{}
	epoch := uint64(1 + pick.Intn(5))
	for range pick.Intn(5) {
		name := wal.Name(epoch)
		if pick.Intn(6) == 0 {
			name = wal.Name(uint64(pick.Intn(20)))
		}
		var s string
		for range pick.Intn(5) {
			s += records(t, epoch)
			epoch++
			if pick.Intn(20) == 0 {
				epoch = uint64(1 + pick.Intn(20))
			}
		}
		if pick.Intn(5) == 0 {
			s = damaged(pick, s)
		}
		f[name] = s
	}
	return f
}

// 5.2: journals that were damaged in picked ways, held against the plainest walk.
func TestDamagedJournals(t *testing.T) {
	kinds := [4]int{}
	pick := rand.New(rand.NewSource(6))
	for range 6000 {
		was := picked(t, pick)
		after := uint64(pick.Intn(10))
		want, left, last := plainOpen(was, after)
		d := holding(t, was)
		l, told, e := wal.Open(d, after)
		if e != api.OK || !slices.EqualFunc(told, want, same) {
			t.Fatalf("of %q behind %d: %+v, %d, want %+v", was, after, told, e, want)
		}
		onDisk(t, d, left)
		stands(t, l, last, sizeOf(left))
		switch {
		case len(was) > 0 && len(left) == 0:
			kinds[0]++
		case len(want) > 0 && maps.Equal(was, left):
			kinds[1]++
		case len(want) > 0 && len(was) > len(left):
			kinds[2]++
		case len(want) > 0:
			kinds[3]++
		}
	}
	if slices.Min(kinds[:]) < 100 {
		t.Errorf("too few of some kind: %v", kinds)
	}
}
