package wal_test

import (
	"bytes"
	"testing"

	"tailrace/api"
	"tailrace/wal"
)

// spoil writes over bytes and over their spare room.
func spoil(b []byte) {
	all := b[:cap(b)]
	for i := range all {
		all[i] = 'q'
	}
}

// R2: what is laid is the caller's, spare room included, and so are the bytes.
func TestLaidIsTheCallers(t *testing.T) {
	const text = "abc, and spare room"
	b := api.Batch{Epoch: 5}
	given := []byte(text)
	b.Bytes = given[:3]
	x := laid(t, b)
	kept := bytes.Clone(x)
	if string(given) != text || !wal.Right(b) {
		t.Errorf("changed to %q", given)
	}
	spoil(given)
	if !bytes.Equal(x, kept) {
		t.Errorf("kept: % x", x)
	}
	copy(given, text)
	spoil(x)
	if string(given) != text || !bytes.Equal(laid(t, b), kept) {
		t.Errorf("shared: %q", given)
	}
}

// R2: what is read is the caller's, spare room included, and so is the batch.
func TestReadIsTheCallers(t *testing.T) {
	b := api.Batch{Epoch: 5, To: 3i, Bytes: []byte("abc")}
	x := laid(t, b)
	given := append(bytes.Clone(x), ", and spare room"...)
	kept := bytes.Clone(given)
	got, _ := wal.Read(given[:len(x)])
	if !bytes.Equal(given, kept) {
		t.Errorf("changed to %q", given)
	}
	spoil(given)
	if !same(got, b) {
		t.Errorf("kept: %+v", got)
	}
	copy(given, kept)
	other, _ := wal.Read(given[:len(x)])
	spoil(got.Bytes)
	if !same(other, b) || !bytes.Equal(given, kept) {
		t.Errorf("shared: %+v, %q", other, given)
	}
}

// R2: a batch that is appended is the caller's.
func TestAppendedIsTheCallers(t *testing.T) {
	const text = "abc, and spare room"
	d := made(t, 999)
	l := opens(t, d, 4)
	given := []byte(text)
	b := api.Batch{Epoch: 5, Bytes: given[:3]}
	ok(t, l.Append(b))
	if string(given) != text {
		t.Errorf("changed to %q", given)
	}
	spoil(given)
	_, told, _ := wal.Open(d, 4)
	if len(told) != 1 || string(told[0].Bytes) != "abc" {
		t.Errorf("kept: %+v", told)
	}
}

// R2: the batches that are told are the caller's, and no two share anything.
func TestToldIsTheCallers(t *testing.T) {
	d := made(t, 9999)
	appends(t, opens(t, d, 0), fromTo(1, 9)...)
	was := holds(d)
	for i := range 6 {
		l, told, _ := wal.Open(d, 3)
		_, other, _ := wal.Open(d, 3)
		spoil(told[i].Bytes)
		told[i].Bytes = append(told[i].Bytes, "zzzzzzzzzzzzzzzz"...)
		for k := range told {
			if k != i && !same(told[k], batch(uint64(4+k))) {
				t.Errorf("batches %d and %d share: %+v", i, k, told[k])
			}
			if !same(other[k], batch(uint64(4+k))) {
				t.Errorf("two answers share batch %d: %+v", k, other[k])
			}
		}
		clear(told[:cap(told)])
		onDisk(t, d, was)
		stands(t, l, 9, len(was[wal.Name(1)]))
	}
	opens(t, d, 0, fromTo(1, 9)...)
}

// R8: what is done to one journal is not done to another.
func TestJournalsAreAlone(t *testing.T) {
	a, b := made(t, 9999), made(t, 9999)
	one, other := opens(t, a, 4), opens(t, b, 7)
	appends(t, one, 5, 6)
	stands(t, other, 7, 0)
	appends(t, other, 8)
	ok(t, one.Begin(7))
	stands(t, one, 6, 0)
	stands(t, other, 8, len(records(t, 8)))
	a.Fuse(0)
	if e := one.Append(batch(7)); e != api.ErrDown {
		t.Errorf("Append: %d", e)
	}
	appends(t, other, 9)
	onDisk(t, b, files{wal.Name(8): records(t, 8, 9)})
}
