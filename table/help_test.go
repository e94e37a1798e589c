package table_test

import (
	"encoding/binary"
	"fmt"
	"math"
	"math/bits"
	"slices"
	"strings"
	"testing"

	"tailrace/api"
	"tailrace/pack"
	"tailrace/table"
	"tailrace/value"
)

const (
	greatest = math.MaxUint64
	never    = "a key that never was"
)

var unset api.Val

// Values of the three kinds that bear something, right or not.
func number(x float64) api.Val           { return api.Val{Kind: api.Num, N: x} }
func text(s string) api.Val              { return api.Val{Kind: api.Str, S: s} }
func strnum(s string, x float64) api.Val { return api.Val{Kind: api.StrNum, S: s, N: x} }

// rights are values of all kinds.
func rights() []api.Val {
	return []api.Val{
		unset, number(0), number(1), number(-2.5), number(math.NaN()), number(math.Inf(1)), number(math.Inf(-1)), number(math.MaxFloat64), number(math.SmallestNonzeroFloat64),
		text(""), text("ab"), text("10"), text("\x00\xff"), text(strings.Repeat("x", api.MaxText)), strnum("10", 10), strnum(" -0\n", 0), strnum("1e999", math.Inf(1)), strnum(strings.Repeat("0", api.MaxText), 0),
	}
}

// wrongs are no values.
func wrongs() []api.Val {
	return []api.Val{
		{N: 1}, {S: "a"}, number(math.Copysign(0, -1)), {Kind: api.Num, N: 1, S: "1"}, {Kind: api.Str, N: 1, S: "1"}, text(strings.Repeat("x", api.MaxText+1)), strnum("10", 11), strnum("x", 0), {Kind: 4}, {Kind: -1, N: 1, S: "a"},
	}
}

// row is one entry.
type row struct {
	key  string
	v    api.Val
	time uint64
}

// plain is the plainest table: a list, in order.
type plain struct {
	ttl  uint64
	rows []row
}

func (p *plain) place(key string) int {
	return slices.IndexFunc(p.rows, func(x row) bool { return x.key == key })
}

func (p *plain) put(key string, v api.Val, now uint64) {
	if i := p.place(key); i >= 0 {
		p.rows[i] = row{key, v, now}
		return
	}
	p.rows = append(p.rows, row{key, v, now})
}

func (p *plain) drop(key string) bool {
	i := p.place(key)
	if i >= 0 {
		p.rows = slices.Delete(p.rows, i, i+1)
	}
	return i >= 0
}

// due reckons in floats: they are whole up to far above MaxTime, and do not go round.
func (p *plain) due() (uint64, bool) {
	least := float64(api.MaxTime)
	for _, x := range p.rows {
		least = min(least, float64(x.time)+float64(p.ttl))
	}
	if p.ttl == 0 || len(p.rows) == 0 {
		return 0, false
	}
	return uint64(least), true
}

func (p *plain) purge(now uint64) []string {
	var gone []string
	var left []row
	for _, x := range p.rows {
		at, round := bits.Add64(x.time, p.ttl, 0)
		if p.ttl != 0 && round == 0 && at <= now {
			gone = append(gone, x.key)
		} else {
			left = append(left, x)
		}
	}
	p.rows = left
	return gone
}

func (p *plain) keys() []string {
	var l []string
	for _, x := range p.rows {
		l = append(l, x.key)
	}
	return l
}

// laid tells its bytes.
func (p *plain) laid() string {
	b := binary.AppendUvarint(nil, p.ttl)
	b = binary.AppendUvarint(b, uint64(len(p.rows)))
	for _, x := range p.rows {
		b = binary.AppendUvarint(b, uint64(len(x.key)))
		b = append(b, x.key...)
		b = binary.AppendUvarint(b, x.time)
		w := pack.NewWriter()
		value.Lay(w, x.v)
		b = append(b, w.Bytes()...)
	}
	return string(b)
}

// keysAre wants these keys of a table, in order, and that it has no other entries.
func keysAre(t *testing.T, x *table.Table, want ...string) {
	t.Helper()
	if l := x.Keys(); !slices.Equal(l, want) || x.Len() != len(want) {
		t.Errorf("15.1: Keys: %.300q, Len: %d, want %.300q", list(l), x.Len(), list(want))
	}
	for _, key := range want {
		if _, ok := x.Get(key); !ok {
			t.Errorf("15.1: %.40q is not there", key)
		}
	}
}

// gets wants that a key has this value.
func gets(t *testing.T, x *table.Table, key string, want api.Val) {
	t.Helper()
	if v, ok := x.Get(key); !ok || !value.Same(v, want) {
		t.Errorf("15.1: Get(%.40q): %s %v, want %s", key, short(v), ok, short(want))
	}
}

// lacks wants that a key is not there.
func lacks(t *testing.T, x *table.Table, keys ...string) {
	t.Helper()
	for _, key := range keys {
		if v, ok := x.Get(key); ok || v != unset {
			t.Errorf("15.1: Get(%.40q): %s %v", key, short(v), ok)
		}
	}
}

// drops wants whether a key was there when it was dropped.
func drops(t *testing.T, x *table.Table, key string, want bool) {
	t.Helper()
	if was := x.Drop(key); was != want {
		t.Errorf("15.1: Drop(%.40q): %v", key, was)
	}
	lacks(t, x, key)
}

// purges wants that these go.
func purges(t *testing.T, x *table.Table, now uint64, want ...string) {
	t.Helper()
	if l := x.Purge(now); !slices.Equal(l, want) {
		t.Errorf("15.2: Purge(%d): %.300q, want %.300q", now, list(l), list(want))
	}
	lacks(t, x, want...)
}

// isDue wants this time of Due.
func isDue(t *testing.T, x *table.Table, want uint64) {
	t.Helper()
	if at, ok := x.Due(); at != want || !ok {
		t.Errorf("15.2: Due: %d %v, want %d", at, ok, want)
	}
}

// isNotDue wants none.
func isNotDue(t *testing.T, x *table.Table) {
	t.Helper()
	if at, ok := x.Due(); at != 0 || ok {
		t.Errorf("15.2: Due: %d %v, want none", at, ok)
	}
}

// laid tells the bytes of a table.
func laid(x *table.Table) string {
	w := pack.NewWriter()
	x.Lay(w)
	return string(w.Bytes())
}

// from reads a table, of which nothing may be wrong.
func from(t *testing.T, b string) *table.Table {
	t.Helper()
	r := pack.NewReader([]byte(b))
	x, e := table.Read(r)
	if x == nil || e != api.OK || r.End() != api.OK {
		t.Fatalf("15.3: Read of %s: %v %d, End %d", hex(b), x, e, r.End())
	}
	return x
}

// isNew wants of a table all that New tells.
func isNew(t *testing.T, x *table.Table) {
	t.Helper()
	keysAre(t, x)
	lacks(t, x, "", "a", never)
	isNotDue(t, x)
	purges(t, x, greatest)
	if b := laid(x); b != "\x00\x00" {
		t.Errorf("15.3: it lays %s", hex(b))
	}
	x.Put("a", number(1), 0)
	isNotDue(t, x)
	purges(t, x, greatest)
	drops(t, x, "a", true)
}

// isPlain wants of a table all that the plain one tells.
func isPlain(t *testing.T, x *table.Table, p *plain) {
	t.Helper()
	keysAre(t, x, p.keys()...)
	lacks(t, x, never)
	for _, y := range p.rows {
		gets(t, x, y.key, y.v)
	}
	if b := laid(x); b != p.laid() {
		t.Errorf("15.3: it lays %s, want %s", hex(b), hex(p.laid()))
	}
	if at, ok := p.due(); ok {
		isDue(t, x, at)
	} else {
		isNotDue(t, x)
	}
}

// list tells keys as one text.
func list(keys []string) string { return strings.Join(keys, ",") }

// hex tells the bytes of a text, of a long one its beginning and its length.
func hex(b string) string {
	if len(b) > 60 {
		return fmt.Sprintf("% x .. of %d bytes", b[:60], len(b))
	}
	return fmt.Sprintf("% x", b)
}

// short tells a value, of a long text its beginning.
func short(v api.Val) string {
	return fmt.Sprintf("{%d %v %.30q}", v.Kind, v.N, v.S)
}
