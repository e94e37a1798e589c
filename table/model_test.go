package table_test

import (
	"math/rand"
	"strings"
	"testing"

	"tailrace/api"
	"tailrace/pack"
	"tailrace/table"
	"tailrace/value"
)

// part reads by a call what b begins with, and tells what is left behind it: its bytes are the first of which a Reader has
// none left. Where there are no such, something is wrong.
func part[T any](b string, call func(r *pack.Reader) T) (x T, left string, wrong api.Errno) {
	for n := range len(b) + 1 {
		r := pack.NewReader([]byte(b[:n]))
		x := call(r)
		if r.End() == api.OK {
			return x, b[n:], api.OK
		}
	}
	r := pack.NewReader([]byte(b))
	call(r)
	return x, "", r.End()
}

func timeOf(r *pack.Reader) uint64  { return r.Num(api.MaxTime) }
func countOf(r *pack.Reader) uint64 { return r.Num(api.MaxEntries) }
func keyOf(r *pack.Reader) string   { return r.Text(api.MaxText) }

// readValue is a value as it was read.
type readValue struct {
	v api.Val
	e api.Errno
}

func valueOf(r *pack.Reader) readValue {
	v, e := value.Read(r)
	return readValue{v, e}
}

// plainRead tells what Read makes of bytes (nil beside an error), and what the Reader's End tells behind it.
func plainRead(b string) (p *plain, e, end api.Errno) {
	p = &plain{}
	var count uint64
	if p.ttl, b, end = part(b, timeOf); end != api.OK {
		return &plain{}, api.OK, end
	}
	if count, b, end = part(b, countOf); end != api.OK {
		return &plain{}, api.OK, end
	}
	for range count {
		var x row
		var v readValue
		if x.key, b, end = part(b, keyOf); end != api.OK {
			return &plain{}, api.OK, end
		}
		if p.place(x.key) >= 0 {
			return nil, api.ErrForm, 0
		}
		if x.time, b, end = part(b, timeOf); end != api.OK {
			return &plain{}, api.OK, end
		}
		if v, b, end = part(b, valueOf); end != api.OK {
			return &plain{}, api.OK, end
		}
		if v.e != api.OK {
			return nil, v.e, 0
		}
		x.v = v.v
		p.rows = append(p.rows, x)
	}
	if b != "" {
		end = api.ErrForm
	}
	return p, api.OK, end
}

// readsPlainly wants of bytes what the model reads, and tells its error.
func readsPlainly(t *testing.T, b string) api.Errno {
	t.Helper()
	p, e, end := plainRead(b)
	readsOf(t, b, p, e, end)
	return e
}

// 15.3: each byte turned to each other one: what comes of it is what the bytes say.
func TestReadTurned(t *testing.T) {
	const one = "\x01\x00\x00\x00\x00\x00\x00\xf0\x3f"
	told := map[api.Errno]int{}
	for _, s := range []string{
		"\x00\x00", "\xac\x02\x00", "\x00\x01\x00\x00\x00", "\x03\x01\x01a\x05" + one, "\xac\x02\x02\x01b\x05" + one + "\x00\x06\x02\x01x",
		"\x00\x04\x01a\x05\x00\x01b\x06\x03\x0210\x02ab\x80\x01\x02\x00\x00\x07\x00", "\x05\x03\x01a\x00\x02\x021e\x01b\x00\x03\x031e5\x01c\x00\x03\x02-1",
	} {
		b := []byte(s)
		for i, was := range b {
			for x := range 256 {
				b[i] = byte(x)
				told[readsPlainly(t, string(b))]++
				readsPlainly(t, string(b)+"\x00\x01a")
			}
			b[i] = was
		}
	}
	if told[api.OK] < 1000 || told[api.ErrForm] < 100 {
		t.Errorf("15.3: read or not: %v", told)
	}
}

// allTexts tells all texts of these bytes that are no longer than n.
func allTexts(bytes string, n int) []string {
	l := []string{""}
	from := 0
	for range n {
		to := len(l)
		for _, s := range l[from:to] {
			for i := range len(bytes) {
				l = append(l, s+bytes[i:i+1])
			}
		}
		from = to
	}
	return l
}

// 15.3 and W4: all short rows of the bytes that bear a meaning.
func TestAllShortBytes(t *testing.T) {
	for _, s := range allTexts("\x00\x01\x02\x80", 6) {
		readsPlainly(t, s)
		readsPlainly(t, "\x00\x02\x00\x00\x00"+s)
	}
	for _, s := range allTexts("\x00\x01\x031\x04", 5) {
		readsPlainly(t, "\x07\x03\x00\x01\x00"+s)
		readsPlainly(t, "\x07\x02\x011\x05"+s)
	}
}

// pickedRows tells up to n entries; a key may come twice, where it says so.
func pickedRows(pick *rand.Rand, n int, twice bool) []row {
	p := plain{}
	values := rights()
	for range pick.Intn(n + 1) {
		x := row{pickedKey(pick), values[pick.Intn(len(values))], pickedTime(pick)}
		if twice || p.place(x.key) < 0 {
			p.rows = append(p.rows, x)
		}
	}
	return p.rows
}

func pickedKey(pick *rand.Rand) string {
	b := make([]byte, pick.Intn(4)*pick.Intn(3)*pick.Intn(12))
	for i := range b {
		b[i] = byte(pick.Intn(256))
	}
	return string(b)
}

func pickedTime(pick *rand.Rand) uint64 { return pick.Uint64() >> (24 + pick.Intn(41)) }

// 15.3: picked tables, there and back; then with a byte turned, taken out, or put in between.
func TestPickedBytes(t *testing.T) {
	pick := rand.New(rand.NewSource(15))
	told := map[api.Errno]int{}
	for range 1500 {
		p := plain{pickedTime(pick), pickedRows(pick, 12, false)}
		b := p.laid()
		readsOf(t, b, &p, api.OK, api.OK)
		isPlain(t, made(p), &p)
		twice := plain{pickedTime(pick), pickedRows(pick, 4, true)}
		told[readsPlainly(t, twice.laid())]++
		for range 4 {
			i := pick.Intn(len(b))
			told[readsPlainly(t, b[:i])]++
			told[readsPlainly(t, b[:i]+string([]byte{byte(pick.Intn(256))})+b[i+1:])]++
			told[readsPlainly(t, b[:i]+b[i+1:])]++
			told[readsPlainly(t, b[:i]+string([]byte{byte(pick.Intn(256))})+b[i:])]++
		}
	}
	if told[api.OK] < 1000 || told[api.ErrForm] < 100 {
		t.Errorf("15.3: read or not: %v", told)
	}
}

// both is a table, and the plain one that was told the same.
type both struct {
	x *table.Table
	p *plain
}

func newBoth() *both { return &both{table.New(), &plain{}} }

// put, drop, clear, expire, purge and again do a call with both, and want the same answers.
func (a *both) put(key string, v api.Val, now uint64) {
	a.x.Put(key, v, now)
	a.p.put(key, v, now)
}

func (a *both) drop(t *testing.T, key string) {
	t.Helper()
	drops(t, a.x, key, a.p.drop(key))
}

func (a *both) clear() {
	a.x.Clear()
	a.p.rows = nil
}

func (a *both) expire(ttl uint64) {
	a.x.Expire(ttl)
	a.p.ttl = ttl
}

func (a *both) purge(t *testing.T, now uint64) {
	t.Helper()
	purges(t, a.x, now, a.p.purge(now)...)
}

// again tells what goes on as the table does: it is laid and read.
func (a *both) again(t *testing.T) *both {
	t.Helper()
	return &both{from(t, laid(a.x)), &plain{a.p.ttl, append([]row(nil), a.p.rows...)}}
}

// does one of ten calls, at this time; the last one lays and reads.
func (a *both) does(t *testing.T, call int, now uint64) *both {
	t.Helper()
	key := []string{"a", "b", "c"}[call%3]
	switch {
	case call < 3:
		a.put(key, number(float64(now)), now)
	case call < 6:
		a.drop(t, key)
	case call == 6:
		a.purge(t, now)
	case call == 7:
		a.clear()
	case call == 8:
		a.expire((a.p.ttl + 2) % 5)
	default:
		return a.again(t)
	}
	return a
}

// 15.4: all short rows of calls with three keys, each call at a time of its own.
func TestAllShortRowsOfCalls(t *testing.T) {
	const calls, length = 10, 5
	rows := 1
	for range length {
		rows *= calls
	}
	for n := range rows {
		a := newBoth()
		a.expire(2)
		for i, k := 0, n; i < length; i, k = i+1, k/calls {
			a = a.does(t, k%calls, uint64(i))
		}
		isPlain(t, a.x, a.p)
		a.purge(t, length)
		a.purge(t, greatest)
		if t.Failed() {
			t.Fatalf("15.4: row %d", n)
		}
	}
}

// pickedCall does a picked call with each of them.
func pickedCall(t *testing.T, pick *rand.Rand, now uint64, l []*both) {
	t.Helper()
	keys := []string{"", "a", "b", "ab", "\x00", "\xff", "k", "10", strings.Repeat("k", api.MaxText)}
	times := []uint64{now, now, now, now - min(now, 3), now + 2, 0, api.MaxTime}
	lives := []uint64{0, 1, 2, 3, 5, 9, 20, api.MaxTime}
	values := rights()
	call, key, v := pick.Intn(20), keys[pick.Intn(len(keys))], values[pick.Intn(len(values))]
	at, ttl := times[pick.Intn(len(times))], lives[pick.Intn(len(lives))]
	for _, a := range l {
		switch {
		case call < 10:
			a.put(key, v, at)
		case call < 14:
			a.drop(t, key)
		case call < 18:
			a.purge(t, at)
		case call == 18:
			a.expire(ttl)
		case ttl == 9:
			a.clear()
		}
	}
}

// 15.1 to 15.4 and W5: long rows of picked calls, held against the plainest table at each moment; at times the table is laid and
// read, and goes on beside those that were not.
func TestPickedCalls(t *testing.T) {
	for seed := range int64(60) {
		pick := rand.New(rand.NewSource(seed))
		l := []*both{newBoth()}
		l[0].expire(uint64(seed % 7))
		for now := range uint64(400) {
			pickedCall(t, pick, now/2, l)
			if pick.Intn(12) == 0 {
				l = append(l, l[pick.Intn(len(l))].again(t))
			}
			if len(l) > 3 {
				l = l[1:]
			}
			for _, a := range l {
				isPlain(t, a.x, a.p)
			}
			if t.Failed() {
				t.Fatalf("15.4: seed %d, call %d", seed, now)
			}
		}
	}
}

// 15.4 and R8: two tables in turn, of which each is told something else.
func TestTwoInTurn(t *testing.T) {
	for seed := range int64(60) {
		pick, other := rand.New(rand.NewSource(seed)), rand.New(rand.NewSource(-seed-1))
		a, b := newBoth(), newBoth()
		for now := range uint64(300) {
			pickedCall(t, pick, now, []*both{a})
			isPlain(t, b.x, b.p)
			pickedCall(t, other, now/3, []*both{b})
			isPlain(t, a.x, a.p)
			isPlain(t, b.x, b.p)
			if now%50 == 49 {
				a, b = b.again(t), a
			}
			if t.Failed() {
				t.Fatalf("R8: seed %d, call %d", seed, now)
			}
		}
	}
}
