package table_test

import (
	"math/bits"
	"slices"
	"testing"

	"tailrace/api"
	"tailrace/table"
)

// of tells a table with this time to live, whose keys a, b, c, .. were put at these times.
func of(ttl uint64, times ...uint64) *table.Table {
	x := table.New()
	x.Expire(ttl)
	for i, at := range times {
		x.Put(string(rune('a'+i)), number(float64(i)), at)
	}
	return x
}

// 15.2: which entries go, and which stay, in order.
func TestPurge(t *testing.T) {
	for _, c := range []struct {
		ttl        uint64
		times      []uint64
		now        uint64
		gone, left string
	}{
		{0, nil, 9, "", ""},
		{0, []uint64{0, 5, 9}, 9, "", "abc"},
		{0, []uint64{0, 5, 9}, greatest, "", "abc"},
		{3, nil, 9, "", ""},
		{3, []uint64{6}, 8, "", "a"},
		{3, []uint64{6}, 9, "a", ""},
		{3, []uint64{6}, 10, "a", ""},
		{3, []uint64{6}, 6, "", "a"},
		{3, []uint64{6}, 5, "", "a"},
		{3, []uint64{6}, 3, "", "a"},
		{3, []uint64{6}, 2, "", "a"},
		{3, []uint64{6}, 0, "", "a"},
		{1, []uint64{6}, 6, "", "a"},
		{1, []uint64{6}, 7, "a", ""},
		{1, []uint64{0}, 0, "", "a"},
		{1, []uint64{0}, 1, "a", ""},
		{3, []uint64{5, 6, 7}, 9, "ab", "c"},
		{3, []uint64{5, 7, 8}, 9, "a", "bc"},
		{3, []uint64{7, 6, 8}, 9, "b", "ac"},
		{3, []uint64{7, 8, 6}, 9, "c", "ab"},
		{3, []uint64{6, 7, 5}, 9, "ac", "b"},
		{3, []uint64{7, 1, 6, 8}, 9, "bc", "ad"},
		{3, []uint64{6, 1, 5, 3}, 9, "abcd", ""},
		{3, []uint64{7, 8, 9, 10}, 9, "", "abcd"},
		{3, []uint64{10, 6, 100, api.MaxTime}, 9, "b", "acd"},
		{3, []uint64{4, 3, 2, 1}, 6, "bcd", "a"},
		{10, []uint64{0, 1, 2}, 10, "a", "bc"},
		{10, []uint64{0, 1, 2}, 9, "", "abc"},
		{api.MaxTime, []uint64{0, 1, api.MaxTime}, api.MaxTime - 1, "", "abc"},
		{api.MaxTime, []uint64{0, 1, api.MaxTime}, api.MaxTime, "a", "bc"},
		{api.MaxTime, []uint64{0, 1, api.MaxTime}, 2*api.MaxTime - 1, "ab", "c"},
		{api.MaxTime, []uint64{0, 1, api.MaxTime}, 2 * api.MaxTime, "abc", ""},
		{1, []uint64{api.MaxTime, api.MaxTime - 1, api.MaxTime + 1}, api.MaxTime, "b", "ac"},
		{1, []uint64{greatest, greatest - 1, 0}, greatest, "bc", "a"},
		{2, []uint64{greatest, greatest - 1, greatest - 2}, greatest, "c", "ab"},
		{2, []uint64{greatest, greatest - 1, greatest - 2}, 5, "", "abc"},
		{greatest, []uint64{0, 1, greatest}, greatest, "a", "bc"},
		{greatest, []uint64{0, 1, greatest}, greatest - 1, "", "abc"},
		{greatest - 1, []uint64{0, 1, 2}, greatest, "ab", "c"},
		{greatest, []uint64{5, greatest}, 4, "", "ab"},
		{1 << 63, []uint64{0, 1 << 63, 1<<63 - 1}, greatest, "ac", "b"},
	} {
		x := of(c.ttl, c.times...)
		gone, left := keys(c.gone), keys(c.left)
		purges(t, x, c.now, gone...)
		keysAre(t, x, left...)
		purges(t, x, c.now)
		keysAre(t, x, left...)
		for _, key := range left {
			gets(t, x, key, number(float64(key[0]-'a')))
		}
		x.Put("z", unset, 1)
		keysAre(t, x, append(left, "z")...)
		if t.Failed() {
			t.Fatalf("15.2: time to live %d, times %d, now %d", c.ttl, c.times, c.now)
		}
	}
}

// keys tells the bytes of a text as keys.
func keys(s string) []string {
	var l []string
	for _, b := range []byte(s) {
		l = append(l, string(rune(b)))
	}
	return l
}

// 15.2: the least time at which one goes.
func TestDue(t *testing.T) {
	for _, c := range []struct {
		ttl   uint64
		times []uint64
		want  uint64
	}{
		{3, []uint64{6}, 9},
		{3, []uint64{0}, 3},
		{1, []uint64{0}, 1},
		{3, []uint64{6, 6}, 9},
		{3, []uint64{6, 6, 6, 7}, 9},
		{3, []uint64{6, 7, 8}, 9},
		{3, []uint64{8, 6, 7}, 9},
		{3, []uint64{8, 7, 6}, 9},
		{3, []uint64{0, greatest}, 3},
		{3, []uint64{greatest, 0}, 3},
		{api.MaxTime, []uint64{0}, api.MaxTime},
		{api.MaxTime - 1, []uint64{0}, api.MaxTime - 1},
		{api.MaxTime + 1, []uint64{0}, api.MaxTime},
		{api.MaxTime - 5, []uint64{4}, api.MaxTime - 1},
		{api.MaxTime - 5, []uint64{5}, api.MaxTime},
		{api.MaxTime - 5, []uint64{6}, api.MaxTime},
		{api.MaxTime - 5, []uint64{6, 4}, api.MaxTime - 1},
		{1, []uint64{api.MaxTime - 2}, api.MaxTime - 1},
		{1, []uint64{api.MaxTime - 1}, api.MaxTime},
		{1, []uint64{api.MaxTime}, api.MaxTime},
		{1, []uint64{api.MaxTime + 1}, api.MaxTime},
		{api.MaxTime, []uint64{api.MaxTime}, api.MaxTime},
		{1, []uint64{greatest}, api.MaxTime},
		{2, []uint64{greatest}, api.MaxTime},
		{api.MaxTime, []uint64{greatest - api.MaxTime + 1}, api.MaxTime},
		{api.MaxTime, []uint64{greatest - api.MaxTime + 8}, api.MaxTime},
		{greatest, []uint64{0}, api.MaxTime},
		{greatest, []uint64{1}, api.MaxTime},
		{greatest, []uint64{8}, api.MaxTime},
		{greatest, []uint64{greatest}, api.MaxTime},
		{greatest, []uint64{greatest, 9}, api.MaxTime},
		{1 << 63, []uint64{1 << 63}, api.MaxTime},
		{1 << 63, []uint64{1<<63 + 7}, api.MaxTime},
	} {
		x := of(c.ttl, c.times...)
		isDue(t, x, c.want)
		isDue(t, x, c.want)
		if t.Failed() {
			t.Fatalf("15.2: time to live %d, times %d", c.ttl, c.times)
		}
	}
}

// 15.2: without a time to live, or without entries, nothing is due, and nothing goes.
func TestNothingIsDue(t *testing.T) {
	for _, ttl := range []uint64{0, 1, 3, api.MaxTime, greatest} {
		x := of(ttl)
		isNotDue(t, x)
		for _, now := range []uint64{0, 1, api.MaxTime, greatest} {
			purges(t, x, now)
		}
	}
	x := of(0, 0, 5, api.MaxTime, greatest)
	isNotDue(t, x)
	for _, now := range []uint64{0, 1, 5, api.MaxTime, greatest} {
		purges(t, x, now)
	}
	keysAre(t, x, "a", "b", "c", "d")
}

// 15.2: the time to live that was told last holds of entries that were put before, too.
func TestExpire(t *testing.T) {
	x := of(0, 10, 12)
	isNotDue(t, x)
	x.Expire(5)
	isDue(t, x, 15)
	x.Expire(3)
	isDue(t, x, 13)
	x.Expire(0)
	isNotDue(t, x)
	purges(t, x, greatest)
	x.Expire(greatest)
	purges(t, x, greatest-1)
	x.Expire(api.MaxTime)
	purges(t, x, api.MaxTime)
	x.Expire(4)
	purges(t, x, 13)
	purges(t, x, 14, "a")
	keysAre(t, x, "b")
	isDue(t, x, 16)
	x.Expire(1)
	purges(t, x, 13, "b")
	isNotDue(t, x)
	x.Put("c", unset, 20)
	isDue(t, x, 21)
}

// 15.2: the time that counts is that at which a key was put last, be it less; that of the others stays; to look at one is not to put it.
func TestPutTurnsTheTime(t *testing.T) {
	x := of(3, 5, 6, 7)
	x.Put("a", number(9), 8)
	isDue(t, x, 9)
	purges(t, x, 9, "b")
	gets(t, x, "c", number(2))
	x.Keys()
	laid(x)
	isDue(t, x, 10)
	purges(t, x, 10, "c")
	isDue(t, x, 11)
	x.Put("a", number(9), 2)
	isDue(t, x, 5)
	x.Put("a", number(9), 7)
	x.Put("b", number(9), 7)
	x.Put("a", number(9), 9)
	keysAre(t, x, "a", "b")
	isDue(t, x, 10)
	purges(t, x, 11, "b")
	purges(t, x, 12, "a")
}

// 15.2: keys that went come back as new ones, as the last.
func TestPurgedKeysComeBack(t *testing.T) {
	x := of(3, 5, 6, 7)
	purges(t, x, 9, "a", "b")
	drops(t, x, "a", false)
	x.Put("a", number(9), 9)
	keysAre(t, x, "c", "a")
	gets(t, x, "a", number(9))
	x.Put("b", number(8), 9)
	keysAre(t, x, "c", "a", "b")
	isDue(t, x, 10)
	purges(t, x, 12, "c", "a", "b")
	x.Put("c", number(7), 12)
	keysAre(t, x, "c")
}

// 15.2: what of five entries goes, and what stays, for each choice of them; then all that is left.
func TestPurgeOfEachChoice(t *testing.T) {
	for choice := range 32 {
		x := table.New()
		var gone, left []string
		x.Expire(10)
		for i, key := range []string{"a", "b", "c", "d", "e"} {
			if choice>>i&1 == 1 {
				x.Put(key, unset, uint64(10-i))
				gone = append(gone, key)
			} else {
				x.Put(key, unset, uint64(11+i))
				left = append(left, key)
			}
		}
		purges(t, x, 20, gone...)
		keysAre(t, x, left...)
		x.Put("f", unset, 20)
		keysAre(t, x, append(slices.Clone(left), "f")...)
		if len(left) > 0 {
			drops(t, x, left[0], true)
			keysAre(t, x, append(slices.Clone(left[1:]), "f")...)
			left = left[1:]
		}
		purges(t, x, greatest, append(left, "f")...)
		isNotDue(t, x)
	}
}

// 15.2: what Purge told is its owner's.
func TestPurgedKeysAreTheirOwners(t *testing.T) {
	x := of(3, 5, 6, 7, 8)
	l := x.Purge(9)
	l[0] = "c"
	l = append(l, "d", "d")
	keysAre(t, x, "c", "d")
	m := x.Purge(10)
	x.Put("a", unset, 7)
	if !slices.Equal(m, []string{"c"}) || !slices.Equal(l, []string{"c", "b", "d", "d"}) {
		t.Errorf("R2: %q, %q", l, m)
	}
	keysAre(t, x, "d", "a")
}

// 15.2: Due is the least time at which a Purge takes one, if that is not above MaxTime: one less takes none.
func TestDueIsWhenPurgeTakesOne(t *testing.T) {
	edges := []uint64{0, 1, 2, 3, 9, api.MaxTime - 1, api.MaxTime, api.MaxTime + 1, 1 << 63, greatest - 1, greatest}
	for _, ttl := range edges[1:] {
		for _, a := range edges {
			for _, b := range edges {
				x := of(ttl, a, b)
				at, ok := x.Due()
				first, round := bits.Add64(min(a, b), ttl, 0)
				if round == 1 || first > api.MaxTime {
					first = api.MaxTime
					purges(t, x, api.MaxTime-1)
					isDue(t, x, api.MaxTime)
					continue
				}
				if at != first || !ok {
					t.Errorf("15.2: times %d and %d, to live %d: Due: %d %v, want %d", a, b, ttl, at, ok, first)
				}
				purges(t, x, at-1)
				if l := x.Purge(at); len(l) == 0 {
					t.Errorf("15.2: times %d and %d, to live %d: nothing goes at %d", a, b, ttl, at)
				}
			}
		}
	}
}
