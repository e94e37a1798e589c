package pack_test

import (
	"bytes"
	"math"
	"math/rand"
	"testing"

	"tailrace/api"
	"tailrace/pack"
)

// step is one call, with what it lays.
type step struct {
	kind byte // 'b', 'n', 'f', 't'
	b    byte
	n    uint64
	x    float64
	s    string
}

// steps makes n calls, the same ones for the same seed.
func steps(seed int64, n int) []step {
	r := rand.New(rand.NewSource(seed))
	list := make([]step, n)
	for i := range list {
		list[i] = step{
			kind: "bnft"[r.Intn(4)],
			b:    byte(r.Intn(256)),
			n:    r.Uint64() >> r.Intn(64),
			x:    math.Float64frombits(r.Uint64()),
			s:    string(bytesOf(r.Int63(), r.Intn(200))),
		}
	}
	return list
}

func lay(list []step) []byte {
	w := pack.NewWriter()
	for _, c := range list {
		switch c.kind {
		case 'b':
			w.Byte(c.b)
		case 'n':
			w.Num(c.n)
		case 'f':
			w.Float(c.x)
		case 't':
			w.Text(c.s)
		}
	}
	return w.Bytes()
}

// read does the calls of list on b; the bounds are the values themselves if tight, else the greatest.
func read(b []byte, list []step, tight bool) ([]step, api.Errno) {
	r := pack.NewReader(b)
	got := make([]step, len(list))
	for i, c := range list {
		byteMost, numMost, textMost := byte(255), uint64(math.MaxUint64), math.MaxInt
		if tight {
			byteMost, numMost, textMost = c.b, c.n, len(c.s)
		}
		got[i].kind = c.kind
		switch c.kind {
		case 'b':
			got[i].b = r.Byte(byteMost)
		case 'n':
			got[i].n = r.Num(numMost)
		case 'f':
			got[i].x = r.Float()
		case 't':
			got[i].s = r.Text(textMost)
		}
	}
	return got, r.End()
}

// same tells whether x and y lay the same: of floats that are no numbers any is like any other.
func same(x, y step) bool {
	switch x.kind {
	case 'b':
		return x.b == y.b
	case 'n':
		return x.n == y.n
	case 'f':
		return math.Float64bits(x.x) == math.Float64bits(y.x) || math.IsNaN(x.x) && math.IsNaN(y.x)
	}
	return x.s == y.s
}

// 1.4: what is laid is read, nothing is left, and it is laid as the same bytes.
func TestWhatIsLaidIsRead(t *testing.T) {
	for seed := range int64(200) {
		list := steps(seed, int(seed)%20)
		b := lay(list)
		for _, tight := range []bool{false, true} {
			got, e := read(b, list, tight)
			if e != api.OK {
				t.Fatalf("seed %d: %d", seed, e)
			}
			for i := range list {
				if !same(list[i], got[i]) {
					t.Fatalf("seed %d: %v, want %v", seed, got[i], list[i])
				}
			}
			if again := lay(got); !bytes.Equal(again, b) {
				t.Fatalf("seed %d: laid as % x, want % x", seed, again, b)
			}
		}
	}
}

// 1.4
func TestCutOffAnywhereIsShort(t *testing.T) {
	for seed := range int64(60) {
		list := steps(seed, 8)
		b := lay(list)
		for k := range b {
			if _, e := read(b[:k], list, true); e != api.ErrShort {
				t.Fatalf("seed %d, cut at %d: %d", seed, k, e)
			}
		}
	}
}

// 1.4: whatever bytes are read without an error, they are laid as the same bytes.
func TestWhatIsReadIsLaidAsTheSameBytes(t *testing.T) {
	often := []byte{0, 1, 2, 127, 128, 129, 255}
	whole := 0
	for seed := range int64(20000) {
		r := rand.New(rand.NewSource(seed))
		b := make([]byte, r.Intn(14))
		for i := range b {
			b[i] = often[r.Intn(len(often))]
		}
		list := steps(seed, 1+r.Intn(3))
		got, e := read(b, list, false)
		if e != api.OK {
			continue
		}
		whole++
		if again := lay(got); !bytes.Equal(again, b) {
			t.Fatalf("% x is laid as % x", b, again)
		}
	}
	if whole < 100 {
		t.Errorf("only %d were read", whole)
	}
}
