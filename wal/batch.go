package wal

import (
	"tailrace/api"
	"tailrace/mark"
	"tailrace/pack"
)

const (
	gapFlag = 1 << iota
	stopFlag
)

const mostLaid = api.MaxBatch + 64 // bytes; of more no batch is read

// Right: may the batch stand in a journal?
func Right(b api.Batch) bool {
	if b.Epoch < 1 || b.Epoch > api.MaxWhole || b.Time > api.MaxTime {
		return false
	}
	if !mark.Right(b.From) || !mark.Right(b.To) || mark.Less(b.To, b.From) {
		return false
	}
	return len(b.Bytes) <= api.MaxBatch
}

// Lay: the bytes of a batch.
func Lay(b api.Batch) ([]byte, api.Errno) {
	if !Right(b) {
		return nil, api.ErrArg
	}
	w := pack.NewWriter()
	w.Num(b.Epoch)
	w.Num(b.Time)
	mark.Lay(w, b.From)
	mark.Lay(w, b.To)
	w.Byte(flagsOf(b))
	w.Text(string(b.Bytes))
	return w.Bytes(), api.OK
}

// Read: a batch of its bytes.
func Read(x []byte) (api.Batch, api.Errno) {
	if len(x) > mostLaid {
		return api.Batch{}, api.ErrLong
	}
	r := pack.NewReader(x)
	var b api.Batch
	b.Epoch = r.Num(api.MaxWhole)
	b.Time = r.Num(api.MaxTime)
	b.From = mark.Read(r)
	b.To = mark.Read(r)
	flags := r.Byte(gapFlag | stopFlag)
	b.Gap = flags&gapFlag != 0
	b.Stop = flags&stopFlag != 0
	b.Bytes = []byte(r.Text(api.MaxBatch))
	if e := r.End(); e != api.OK {
		return api.Batch{}, e
	}
	// Each number may be small enough, and the batch still be none: of epoch 0, or going backward.
	if !Right(b) {
		return api.Batch{}, api.ErrForm
	}
	return b, api.OK
}

func flagsOf(b api.Batch) byte {
	var flags byte
	if b.Gap {
		flags |= gapFlag
	}
	if b.Stop {
		flags |= stopFlag
	}
	return flags
}
