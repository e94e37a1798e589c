package table

import (
	"tailrace/api"
	"tailrace/pack"
	"tailrace/value"
)

func (t *Table) Lay(w *pack.Writer) {
	if w == nil {
		return
	}
	w.Num(t.ttl)
	w.Num(uint64(t.Len()))
	for x := range t.chain.entries {
		w.Text(x.key)
		w.Num(x.time)
		value.Lay(w, x.val)
	}
}

// Read: a table of its bytes; New, where r finds something wrong with them and keeps it.
func Read(r *pack.Reader) (*Table, api.Errno) {
	if r == nil {
		return nil, api.ErrArg
	}
	a := asker{r: r}
	t := New()
	t.Expire(a.num(api.MaxTime))
	for range a.num(api.MaxEntries) {
		if e := t.readEntry(&a); e != api.OK {
			return nil, e
		}
	}
	if a.wrong {
		return New(), api.OK
	}
	return t, api.OK
}

// readEntry reads one more entry. Where something is wrong all that it asks for is 0 and empty, which comes to nothing.
func (t *Table) readEntry(a *asker) api.Errno {
	key := a.text(api.MaxText)
	if _, twice := t.found[key]; twice && !a.wrong {
		return api.ErrForm
	}
	at := a.num(api.MaxTime)
	v, e := a.value()
	if e == api.OK {
		t.Put(key, v, at)
	}
	return e
}

// asker asks a Reader, and knows whether that found something wrong, which its End does not tell from bytes that are left.
// (It may not hear of what was wrong ahead: all is 0 and empty then, as in a table that is New.)
type asker struct {
	r     *pack.Reader
	wrong bool
}

func (a *asker) num(most uint64) uint64 {
	before := *a.r
	n := a.r.Num(most)
	a.heard(n == 0, before)
	return n
}

func (a *asker) text(most int) string {
	before := *a.r
	s := a.r.Text(most)
	a.heard(s == "", before)
	return s
}

func (a *asker) value() (api.Val, api.Errno) {
	before := *a.r
	v, e := value.Read(a.r)
	a.heard(v.Kind == api.Unset, before)
	return v, e
}

// heard keeps that something is wrong, where nothing was told: 0, an empty text and Unset are a byte 0, and without it none.
// It asks a copy of the Reader as it was before, as asking takes the byte.
func (a *asker) heard(nothing bool, before pack.Reader) {
	if !nothing {
		return
	}
	before.Byte(0)
	e := before.End()
	if e != api.OK && e != api.ErrForm {
		a.wrong = true
	}
}
