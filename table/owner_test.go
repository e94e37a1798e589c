package table_test

import (
	"math/rand"
	"slices"
	"strconv"
	"strings"
	"sync"
	"testing"
	"unsafe"

	"tailrace/api"
	"tailrace/pack"
	"tailrace/table"
)

// lent tells a text whose bytes its owner turns afterwards.
func lent(s string) (string, func()) {
	b := []byte(s)
	return unsafe.String(&b[0], len(b)), func() {
		for i := range b {
			b[i] = 'Q'
		}
	}
}

// R2: neither the key nor the value's text is kept, of a new key and of an old one.
func TestPutKeepsNothing(t *testing.T) {
	x := table.New()
	for _, s := range []string{"the text of a value", "another"} {
		key, turnKey := lent("some key")
		v, turnText := lent(s)
		x.Put(key, text(v), 1)
		turnKey()
		turnText()
		keysAre(t, x, "some key")
		gets(t, x, "some key", text(s))
	}
	key, turn := lent("some key")
	drops(t, x, key, true)
	drops(t, x, key, false)
	turn()
	isNew(t, x)
}

// R2: what is told is new memory, each time.
func TestAnswersAreNew(t *testing.T) {
	shared := func(s, u string) bool { return unsafe.StringData(s) == unsafe.StringData(u) }
	x := table.New()
	x.Expire(1)
	x.Put("some key", text("some text"), 1)
	v, _ := x.Get("some key")
	w, _ := x.Get("some key")
	if shared(v.S, w.S) {
		t.Error("R2: Get tells one text twice")
	}
	one, other := x.Keys(), x.Keys()
	if shared(one[0], other[0]) || &one[0] == &other[0] {
		t.Error("R2: Keys tells one key twice")
	}
	y, z := from(t, laid(x)), from(t, laid(x))
	u, _ := y.Get("some key")
	v, _ = z.Get("some key")
	if shared(u.S, v.S) || shared(y.Keys()[0], z.Keys()[0]) {
		t.Error("R2: two that were read share a text")
	}
	gone := x.Purge(2)
	if shared(gone[0], one[0]) || shared(gone[0], other[0]) {
		t.Error("R2: Purge tells a key that was told")
	}
}

// R2: bytes that are read stay as they are; turned afterwards they turn no table. What is laid stays as it is.
func TestBytesAreTheirOwners(t *testing.T) {
	p := plain{3, []row{{"ab", text("cd"), 5}, {"e", strnum("10", 10), 6}}}
	given := []byte(p.laid())
	x, _ := table.Read(pack.NewReader(given))
	if string(given) != p.laid() {
		t.Errorf("R2: changed to %s", hex(string(given)))
	}
	for i := range given {
		given[i] = 'Q'
	}
	isPlain(t, x, &p)
	w := pack.NewWriter()
	x.Lay(w)
	b := w.Bytes()
	x.Put("ab", text("xx"), 9)
	x.Put("z", unset, 9)
	if string(b) != p.laid() || string(w.Bytes()) != p.laid() {
		t.Errorf("R2: %s", hex(string(b)))
	}
}

// R8: two that are read of one row of bytes, and the one that laid it, know nothing of one another.
func TestReadSharesNothing(t *testing.T) {
	p := plain{3, []row{{"a", text("x"), 5}, {"b", unset, 6}, {"c", unset, 7}}}
	x := made(p)
	y, z := from(t, laid(x)), from(t, laid(x))
	y.Put("d", unset, 1)
	drops(t, y, "a", true)
	y.Put("b", text("y"), 9)
	y.Expire(1)
	isPlain(t, x, &p)
	isPlain(t, z, &p)
	z.Clear()
	isPlain(t, x, &p)
	keysAre(t, y, "b", "c", "d")
	isDue(t, y, 2)
	purges(t, x, 8, "a")
	keysAre(t, y, "b", "c", "d")
	keysAre(t, z)
}

// R3 and R4: what asks turns nothing, however often.
func TestAskingTurnsNothing(t *testing.T) {
	p := plain{3, []row{{"b", number(1), 5}, {"a", number(2), 4}, {"", unset, 9}}}
	x := made(p)
	for range 3 {
		lacks(t, x, never, "c")
		drops(t, x, never, false)
		purges(t, x, 6)
		purges(t, x, 0)
		isPlain(t, x, &p)
	}
}

// R4: what a table tells hangs on no map's order: many of them that were told the same tell the same, also at one time.
func TestTheSameAgain(t *testing.T) {
	tell := func() []string {
		pick := rand.New(rand.NewSource(4))
		x := table.New()
		x.Expire(50)
		var l []string
		for now := range uint64(600) {
			key := strconv.Itoa(pick.Intn(90))
			if pick.Intn(3) == 0 {
				x.Drop(key)
			} else {
				x.Put(key, text(key), now)
			}
			if now%40 == 39 {
				l = append(l, laid(x))
				l = append(l, x.Keys()...)
				l = append(l, x.Purge(now)...)
			}
		}
		return l
	}
	want := tell()
	var group sync.WaitGroup
	for range 8 {
		group.Go(func() {
			if !slices.Equal(tell(), want) {
				t.Error("R4: not the same again")
			}
		})
	}
	group.Wait()
}

// R1 and R7: many entries, long keys and texts; none costs the others' number.
func TestVeryMany(t *testing.T) {
	const n = 1 << 17
	x := table.New()
	x.Expire(n)
	for i := range n {
		x.Put(strconv.Itoa(i), number(float64(i)), uint64(i))
	}
	for i := 0; i < n; i += 2 {
		drops(t, x, strconv.Itoa(i), true)
	}
	for i := 0; i < n; i += 2 {
		x.Put(strconv.Itoa(i), unset, n)
	}
	l := x.Keys()
	if x.Len() != n || len(l) != n || l[0] != "1" || l[n/2-1] != strconv.Itoa(n-1) || l[n/2] != "0" || l[n-1] != strconv.Itoa(n-2) {
		t.Errorf("15.4: %d keys of %d", len(l), x.Len())
	}
	isDue(t, x, n+1)
	if gone := x.Purge(2*n - 1); len(gone) != n/2 || gone[0] != "1" || gone[n/2-1] != strconv.Itoa(n-1) {
		t.Errorf("15.2: %d are gone", len(gone))
	}
	isDue(t, x, 2*n)
	x.Clear()
	long := strings.Repeat("k", 1<<20)
	x.Put(long, text(long), 5)
	gets(t, x, long, text(long))
	lacks(t, x, long[1:], long+"k")
	keysAre(t, x, long)
	leaves(t, laid(x)[:1<<10], api.ErrLong)
	drops(t, x, long, true)
}
