package split

import (
	"tailrace/api"
	"tailrace/pack"
)

const mostAhead = 4 * api.MaxBatch // bytes that are read of what has not been looked at

// How a record under way is laid: the sum of what holds.
const (
	laidPassed = 1
	laidWaits  = 2
)

// Lay: the bytes of a splitter.
func (s *Splitter) Lay(w *pack.Writer) {
	if w == nil {
		return
	}
	var how byte
	if s.passed {
		how += laidPassed
	}
	if s.waits {
		how += laidWaits
	}
	w.Text(string(s.record))
	w.Byte(how)
	w.Text(string(s.ahead))
}

// Read: a splitter of its bytes; r keeps what was wrong with them.
func Read(r *pack.Reader, most int) *Splitter {
	s, e := New(most)
	if e != api.OK || r == nil {
		return nil
	}
	record := r.Text(most)
	how := r.Byte(laidPassed + laidWaits)
	before := *r
	ahead := r.Text(mostAhead)
	if ahead == "" && !emptyTextNext(before) {
		return s
	}
	s.record, s.ahead = []byte(record), []byte(ahead)
	s.passed, s.waits = how&laidPassed != 0, how&laidWaits != 0
	return s
}

// emptyTextNext tells whether an empty text stands next: a byte 0. It asks a copy of the Reader, as asking takes that byte,
// and neither does Text tell an empty one from a wrong one, nor End what is wrong from what is left behind it.
// (It is true, too, where a wrong form was found before: all that was read since is empty then.)
func emptyTextNext(r pack.Reader) bool {
	r.Byte(0)
	e := r.End()
	return e == api.OK || e == api.ErrForm
}
