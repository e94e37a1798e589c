package wal_test

import (
	"bytes"
	"math"
	"math/rand"
	"strings"
	"testing"

	"tailrace/api"
	"tailrace/mark"
	"tailrace/pack"
	"tailrace/wal"
)

const whole = api.MaxWhole

// same: are two batches the same?
func same(a, b api.Batch) bool {
	flags := a.Gap == b.Gap && a.Stop == b.Stop
	return flags && a.Epoch == b.Epoch && a.Time == b.Time && a.From == b.From && a.To == b.To && bytes.Equal(a.Bytes, b.Bytes)
}

// rights tells batches that are right, with every edge among them.
func rights() []api.Batch {
	var l []api.Batch
	for _, epoch := range []uint64{1, 2, 127, 128, 300, whole - 1, whole} {
		l = append(l, api.Batch{Epoch: epoch})
	}
	for _, time := range []uint64{0, 1, 127, 128, api.MaxTime - 1, api.MaxTime} {
		l = append(l, api.Batch{Epoch: 1, Time: time})
	}
	for _, m := range [][2]complex128{
		{0, 0}, {0, 1i}, {0, 1}, {1, 1 + 2i}, {1 + 2i, 1 + 2i}, {1 + 2i, 1 + 3i}, {2 + 9i, 3}, {2 + 9i, 3 + 1i},
		{0, whole}, {0, whole * 1i}, {0, complex(whole, whole)}, {complex(whole, whole), complex(whole, whole)},
	} {
		l = append(l, api.Batch{Epoch: 1, From: m[0], To: m[1]})
	}
	for _, n := range []int{1, 127, 128, api.MaxBatch - 1, api.MaxBatch} {
		l = append(l, api.Batch{Epoch: 1, Bytes: bytesOf(int64(n), n)})
	}
	for _, flags := range [][2]bool{{true, false}, {false, true}, {true, true}} {
		l = append(l, api.Batch{Epoch: 1, Gap: flags[0], Stop: flags[1]})
	}
	most := complex(whole, whole)
	return append(l, api.Batch{Epoch: whole, Time: api.MaxTime, From: most, To: most, Gap: true, Stop: true, Bytes: bytesOf(9, api.MaxBatch)})
}

// wrongs tells batches that are not right, each in one way.
func wrongs() []api.Batch {
	var l []api.Batch
	for _, epoch := range []uint64{0, whole + 1, whole + 2, 1 << 63, math.MaxUint64} {
		l = append(l, api.Batch{Epoch: epoch})
	}
	for _, time := range []uint64{api.MaxTime + 1, 1 << 63, math.MaxUint64} {
		l = append(l, api.Batch{Epoch: 1, Time: time})
	}
	for _, part := range []float64{0.5, -1, math.Copysign(0, -1), whole + 1, math.NaN(), math.Inf(1), math.Inf(-1)} {
		l = append(l,
			api.Batch{Epoch: 1, From: complex(part, 0), To: 9},
			api.Batch{Epoch: 1, From: complex(1, part), To: 9},
			api.Batch{Epoch: 1, From: 1, To: complex(part, 1)},
			api.Batch{Epoch: 1, From: 1, To: complex(9, part)})
	}
	for _, m := range [][2]complex128{{1i, 0}, {1, 0}, {1, 9i}, {1 + 2i, 1 + 1i}, {3, 2 + 9i}, {whole, (whole - 1)}} {
		l = append(l, api.Batch{Epoch: 1, From: m[0], To: m[1]})
	}
	for _, n := range []int{api.MaxBatch + 1, api.MaxBatch + 2, 70000} {
		l = append(l, api.Batch{Epoch: 1, Bytes: make([]byte, n)})
	}
	return l
}

// bytesOf makes n bytes, the same ones for the same seed.
func bytesOf(seed int64, n int) []byte {
	b := make([]byte, n)
	rand.New(rand.NewSource(seed)).Read(b)
	return b
}

// laid tells the bytes of a batch that is right.
func laid(t testing.TB, b api.Batch) []byte {
	t.Helper()
	x, e := wal.Lay(b)
	if e != api.OK {
		t.Fatalf("Lay(%+v): %d", b, e)
	}
	return x
}

// plain lays the parts of a batch as they are, be they right or not.
func plain(epoch, time, fromA, fromB, toA, toB uint64, flags byte, text string) []byte {
	w := pack.NewWriter()
	for _, n := range []uint64{epoch, time, fromA, fromB, toA, toB} {
		w.Num(n)
	}
	w.Byte(flags)
	w.Text(text)
	return w.Bytes()
}

// refused fails, if Read tells of x anything but that error.
func refused(t *testing.T, x []byte, want api.Errno) {
	t.Helper()
	b, e := wal.Read(x)
	if e != want || !same(b, api.Batch{}) {
		t.Errorf("Read(%d bytes, % x ..): %+v, %d, want %d", len(x), x[:min(len(x), 12)], b, e, want)
	}
}

// 5.1: what is right, with every edge, and each way of being wrong.
func TestRight(t *testing.T) {
	for _, b := range rights() {
		if !wal.Right(b) {
			t.Errorf("%+v is not right", b)
		}
	}
	for _, b := range wrongs() {
		if wal.Right(b) {
			t.Errorf("%+v is right", b)
		}
	}
	if wal.Right(api.Batch{}) {
		t.Error("the zero batch is right")
	}
}

// 5.1: bytes, one by one.
func TestLay(t *testing.T) {
	for _, c := range []struct {
		b    api.Batch
		want string
	}{
		{api.Batch{Epoch: 1}, "\x01\x00\x00\x00\x00\x00\x00\x00"},
		{api.Batch{Epoch: 3, Time: 7, From: 1 + 4i, To: 2 + 5i, Bytes: []byte("ab")}, "\x03\x07\x01\x04\x02\x05\x00\x02ab"},
		{api.Batch{Epoch: 300, Time: 128, To: 300i, Gap: true}, "\xac\x02\x80\x01\x00\x00\x00\xac\x02\x01\x00"},
		{api.Batch{Epoch: 1, Stop: true, Bytes: []byte{0}}, "\x01\x00\x00\x00\x00\x00\x02\x01\x00"},
		{api.Batch{Epoch: 1, Gap: true, Stop: true}, "\x01\x00\x00\x00\x00\x00\x03\x00"},
		{api.Batch{Epoch: whole, Time: api.MaxTime}, "\x80\x80\x80\x80\x80\x20\x80\x80\x80\x80\x80\x20\x00\x00\x00\x00\x00\x00"},
		{api.Batch{Epoch: 1, Bytes: []byte(strings.Repeat("z", 512))}, "\x01\x00\x00\x00\x00\x00\x00\x80\x04" + strings.Repeat("z", 512)},
	} {
		if x := laid(t, c.b); string(x) != c.want {
			t.Errorf("%+v: % x, want % x", c.b, x, c.want)
		}
		if b, e := wal.Read([]byte(c.want)); e != api.OK || !same(b, c.b) {
			t.Errorf("Read(% x): %+v, %d, want %+v", c.want, b, e, c.b)
		}
	}
}

// 5.1: what is not right has no bytes.
func TestLayOfWrong(t *testing.T) {
	for _, b := range append(wrongs(), api.Batch{}) {
		if x, e := wal.Lay(b); e != api.ErrArg || len(x) != 0 {
			t.Errorf("%+v: % x, %d", b, x, e)
		}
	}
}

// 5.1: what was laid is read as it was; cut off anywhere it is ErrShort; with more behind it ErrForm.
func TestLaidIsRead(t *testing.T) {
	for _, b := range rights() {
		x := laid(t, b)
		if len(x) > api.MaxBatch+64 {
			t.Errorf("%+v has %d bytes", b, len(x))
		}
		if got, e := wal.Read(x); e != api.OK || !same(got, b) {
			t.Errorf("%+v: %+v, %d", b, got, e)
		}
		for k := range x {
			refused(t, x[:k], api.ErrShort)
		}
		for _, more := range []string{"\x00", "\x01", "\xff", "\x00\x00"} {
			refused(t, append(bytes.Clone(x), more...), api.ErrForm)
		}
		refused(t, append(bytes.Clone(x), x[:7]...), api.ErrForm)
	}
}

// 5.1: picked batches.
func TestPickedOnesAreRead(t *testing.T) {
	pick := rand.New(rand.NewSource(4))
	number := func() uint64 { return uint64(pick.Int63n(whole+1)) >> pick.Intn(41) }
	for range 3000 {
		b := api.Batch{Epoch: number(), Time: number(), Gap: pick.Intn(2) == 0, Stop: pick.Intn(2) == 0, Bytes: bytesOf(pick.Int63(), pick.Intn(520))}
		b.From, _ = mark.Of(number()%9, number())
		b.To, _ = mark.Of(number()%9, number())
		// By the words of 5.1, from the other side: the marks as pairs.
		a, c := real(b.From), real(b.To)
		right := b.Epoch > 0 && (a < c || a == c && imag(b.From) <= imag(b.To)) && len(b.Bytes) < 513
		x, e := wal.Lay(b)
		if wal.Right(b) != right || (e == api.OK) != right {
			t.Fatalf("%+v: right %t, laid %d", b, wal.Right(b), e)
		}
		if !right {
			continue
		}
		if got, e := wal.Read(x); e != api.OK || !same(got, b) {
			t.Fatalf("%+v: %+v, %d", b, got, e)
		}
	}
}

// 5.1: numbers that are greater than they may be.
func TestReadOfGreatNumbers(t *testing.T) {
	for _, n := range []uint64{whole + 1, whole + 128, 1 << 53, 1 << 63, math.MaxUint64} {
		refused(t, plain(n, 0, 0, 0, 0, 0, 0, ""), api.ErrLong)
		refused(t, plain(1, n, 0, 0, 0, 0, 0, ""), api.ErrLong)
		refused(t, plain(1, 0, n, 0, 9, 0, 0, ""), api.ErrLong)
		refused(t, plain(1, 0, 0, n, 9, 0, 0, ""), api.ErrLong)
		refused(t, plain(1, 0, 0, 0, n, 0, 0, ""), api.ErrLong)
		refused(t, plain(1, 0, 0, 0, 0, n, 0, ""), api.ErrLong)
	}
	for flags := 4; flags < 256; flags++ {
		refused(t, plain(1, 0, 0, 0, 0, 0, byte(flags), ""), api.ErrLong)
	}
	refused(t, plain(1, 0, 0, 0, 0, 0, 0, strings.Repeat("z", 513)), api.ErrLong)
	// A length that is too great is told ahead of bytes that are not there.
	refused(t, []byte("\x01\x00\x00\x00\x00\x00\x00\x81\x04"), api.ErrLong)
	refused(t, []byte("\x01\x00\x00\x00\x00\x00\x00\x80\x04"), api.ErrShort)
}

// 5.1: numbers of more digits than they need.
func TestReadOfWrongForm(t *testing.T) {
	good := "\x01\x00\x00\x00\x00\x00"
	for k := range len(good) {
		refused(t, []byte(good[:k]+"\x81\x00"+good[k+1:]+"\x00\x00"), api.ErrForm)
	}
	refused(t, []byte(good+"\x00\x81\x00z"), api.ErrForm)
	refused(t, []byte("\xff\xff\xff\xff\xff\xff\xff\xff\xff\x02"), api.ErrForm)
}

// 5.1: what is read, but no batch.
func TestReadOfNotRight(t *testing.T) {
	refused(t, plain(0, 0, 0, 0, 0, 0, 0, ""), api.ErrForm)
	refused(t, plain(0, 7, 1, 0, 1, 2, 3, "ab"), api.ErrForm)
	refused(t, plain(1, 0, 1, 2, 1, 1, 0, ""), api.ErrForm)
	refused(t, plain(1, 0, 2, 0, 1, 9, 0, ""), api.ErrForm)
	refused(t, plain(1, 0, whole, whole, whole, whole-1, 0, ""), api.ErrForm)
}

// 5.1: what is wrong first is told, and what the Reader finds ahead of what is not right.
func TestReadTellsTheFirst(t *testing.T) {
	refused(t, nil, api.ErrShort)
	refused(t, plain(0, 0, 0, 0, 0, 0, 4, ""), api.ErrLong)
	refused(t, plain(0, 0, 2, 0, 1, 0, 0, "ab")[:9], api.ErrShort)
	refused(t, plain(1, whole+1, 0, 0, 0, 0, 4, "")[:9], api.ErrLong)
	refused(t, []byte("\x81\x00\xff\xff\xff\xff\xff\xff\x7f"), api.ErrForm)
	refused(t, append(plain(1, whole+1, 0, 0, 0, 0, 0, ""), 0), api.ErrLong)
}

// 5.1: of more than MaxBatch and 64 bytes nothing is read, whatever they are.
func TestReadOfManyBytes(t *testing.T) {
	x := laid(t, rights()[len(rights())-1])
	long := func(n int) []byte { return append(bytes.Clone(x), make([]byte, n-len(x))...) }
	refused(t, long(api.MaxBatch+64), api.ErrForm)
	refused(t, long(api.MaxBatch+65), api.ErrLong)
	refused(t, long(70000), api.ErrLong)
	refused(t, bytes.Repeat([]byte{0x80}, api.MaxBatch+64), api.ErrForm)
	refused(t, bytes.Repeat([]byte{0x80}, api.MaxBatch+65), api.ErrLong)
	refused(t, make([]byte, api.MaxBatch+64), api.ErrForm)
	refused(t, make([]byte, api.MaxBatch+65), api.ErrLong)
}

// 5.1: whatever is turned, what is read is right, and has just these bytes.
func TestReadOfTurnedBytes(t *testing.T) {
	read := 0
	for _, b := range []api.Batch{rights()[len(rights())-1], {Epoch: 300, Time: 7, From: 1 + 2i, To: 3 + 400i, Gap: true, Bytes: []byte("ab")}} {
		x := laid(t, b)
		for at := range min(len(x), 60) {
			for turn := 1; turn < 256; turn++ {
				y := bytes.Clone(x)
				y[at] ^= byte(turn)
				got, e := wal.Read(y)
				if e != api.OK {
					refused(t, y, e)
					continue
				}
				read++
				if !wal.Right(got) || same(got, b) || !bytes.Equal(laid(t, got), y) {
					t.Errorf("% x: %+v", y, got)
				}
			}
		}
	}
	if read < 100 {
		t.Errorf("%d were read", read)
	}
}
