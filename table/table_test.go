package table_test

import (
	"slices"
	"strings"
	"testing"

	"tailrace/api"
	"tailrace/table"
)

// The chapter's examples, in their row.
func TestExamples(t *testing.T) {
	x := table.New()
	x.Put("b", number(1), 5)
	x.Put("a", number(2), 6)
	x.Put("b", number(3), 7)
	keysAre(t, x, "b", "a")
	drops(t, x, "b", true)
	x.Put("b", number(4), 8)
	keysAre(t, x, "a", "b")
	x.Expire(3)
	isDue(t, x, 9)
	purges(t, x, 8)
	purges(t, x, 9, "a")
	keysAre(t, x, "b")
	gets(t, x, "b", number(4))
}

// 15.1: a new table has no entry, and none is dropped of it.
func TestNew(t *testing.T) {
	isNew(t, table.New())
	x := table.New()
	drops(t, x, "", false)
	drops(t, x, never, false)
	x.Clear()
	isNew(t, x)
}

// plays does calls that are written as two bytes each: + puts a key, - drops one that is there, ~ one that is not, and a
// bang clears.
func plays(t *testing.T, x *table.Table, calls string) {
	t.Helper()
	for i := 0; i < len(calls); i += 2 {
		key := calls[i+1 : i+2]
		switch calls[i] {
		case '+':
			x.Put(key, number(float64(i)), uint64(i))
			gets(t, x, key, number(float64(i)))
		case '-':
			drops(t, x, key, true)
		case '~':
			drops(t, x, key, false)
		case '!':
			x.Clear()
			keysAre(t, x)
			lacks(t, x, "a", "b", "c", "d")
		}
	}
}

// 15.1: the order of the keys: that in which they came last, whatever was put again, dropped, or cleared.
func TestOrder(t *testing.T) {
	for _, c := range []struct{ calls, want string }{
		{"", ""},
		{"+a", "a"},
		{"+a+a", "a"},
		{"+a+b+c", "abc"},
		{"+c+b+a", "cba"},
		{"+b+a+b", "ba"},
		{"+a+b+c+b+a+c", "abc"},
		{"+a-a", ""},
		{"~a+a-a~a", ""},
		{"+a-a+a", "a"},
		{"+a+b-a+a", "ba"},
		{"+a+b-b+b", "ab"},
		{"+a+b+c-a", "bc"},
		{"+a+b+c-b", "ac"},
		{"+a+b+c-c", "ab"},
		{"+a+b+c-b+b", "acb"},
		{"+a+b+c-a-b+a+b", "cab"},
		{"+a+b+c-a-b-c+c+b+a", "cba"},
		{"+a+b+c-b-a-c", ""},
		{"+a+b+c-c-a+d", "bd"},
		{"+a+b~c~d+a", "ab"},
		{"+a-a~a+b~a+a-b~b", "a"},
		{"!!", ""},
		{"+a!!", ""},
		{"+a!!~a", ""},
		{"+a+b!!+b+a", "ba"},
		{"+a+b+c!!+c", "c"},
		{"+a+b!!+a+b+a-b!!!!+b", "b"},
		{"+a+b-a!!+c+a-c+c", "ac"},
		{"+a+b+c+d-b-c+c+b-d+d", "acbd"},
	} {
		x := table.New()
		plays(t, x, c.calls)
		keysAre(t, x, strings.Split(c.want, "")[:len(c.want)]...)
		if t.Failed() {
			t.Fatalf("behind %s", c.calls)
		}
	}
}

// 15.1: Put alone brings a key, and gives it a value; the others' values stay.
func TestGet(t *testing.T) {
	x := table.New()
	lacks(t, x, "a")
	x.Put("a", number(1), 5)
	x.Put("b", text("u"), 5)
	gets(t, x, "a", number(1))
	gets(t, x, "b", text("u"))
	x.Put("a", strnum("7", 7), 4)
	gets(t, x, "a", strnum("7", 7))
	gets(t, x, "b", text("u"))
	lacks(t, x, "", "c", "A", "ab", "aa", "a\x00", "\x00a", " a", "a ")
	keysAre(t, x, "a", "b")
	drops(t, x, "a", true)
	gets(t, x, "b", text("u"))
	x.Put("a", unset, 5)
	gets(t, x, "a", unset)
	x.Clear()
	lacks(t, x, "a", "b")
	drops(t, x, "a", false)
	x.Put("b", number(2), 5)
	gets(t, x, "b", number(2))
	lacks(t, x, "a")
}

// 15.1: each value is told as it was put; what is no value, too.
func TestValues(t *testing.T) {
	x := table.New()
	for _, v := range append(rights(), wrongs()...) {
		x.Put("a", v, 1)
		gets(t, x, "a", v)
		x.Put("b", v, 1)
		gets(t, x, "b", v)
		drops(t, x, "b", true)
	}
	keysAre(t, x, "a")
}

// 15.1: the empty key is one, and no other.
func TestEmptyKey(t *testing.T) {
	x := table.New()
	x.Put("a", number(1), 1)
	lacks(t, x, "")
	drops(t, x, "", false)
	x.Put("", number(2), 2)
	x.Put("b", number(3), 3)
	keysAre(t, x, "a", "", "b")
	gets(t, x, "", number(2))
	x.Put("", unset, 4)
	gets(t, x, "", unset)
	drops(t, x, "", true)
	drops(t, x, "", false)
	keysAre(t, x, "a", "b")
	x.Put("", number(4), 5)
	keysAre(t, x, "a", "b", "")
	x.Expire(1)
	purges(t, x, 5, "a", "b")
	purges(t, x, 6, "")
	isNotDue(t, x)
}

// manyKeys are keys with any bytes, short and long, none twice, in no order of theirs.
func manyKeys() []string {
	l := []string{"", "\x00\x00", "ab", "ba", "a\x00", "\x00a", "a ", " a", "10", "010", "1e1", "a\x1cb", "\u00e9", "e\u0301", "\xff\xfe", "\xed\xa0\x80", "A\u030a", "\u00c5", "\u212b"}
	for i := range 256 {
		l = append(l, string([]byte{byte(i*7 + 3)}))
	}
	for _, n := range []int{127, 128, api.MaxText - 1, api.MaxText, api.MaxText + 1, 2 * api.MaxText} {
		l = append(l, strings.Repeat("x", n), strings.Repeat("x", n-1)+"y", "y"+strings.Repeat("x", n-1), strings.Repeat("\x00", n))
	}
	return l
}

// 15.1: keys are the same, if all their bytes are.
func TestKeysWithAnyBytes(t *testing.T) {
	l := manyKeys()
	x := table.New()
	for i, key := range l {
		lacks(t, x, key)
		x.Put(key, number(float64(i)), uint64(i))
	}
	keysAre(t, x, l...)
	for i, key := range l {
		gets(t, x, key, number(float64(i)))
		x.Put(key, text(key), 1)
	}
	keysAre(t, x, l...)
	for i, key := range l {
		gets(t, x, key, text(key))
		drops(t, x, key, true)
		drops(t, x, key, false)
		keysAre(t, x, l[i+1:]...)
	}
}

// 15.1: Keys and Len ask alone: whatever is asked, nothing is turned; nor by what the row's owner does with it.
func TestKeysAreTheirOwners(t *testing.T) {
	x := table.New()
	plays(t, x, "+a+b+c")
	l := x.Keys()
	slices.Reverse(l)
	keysAre(t, x, "a", "b", "c")
	for i := range l {
		l[i] = "z"
	}
	l = append(l[:1], "y", "y")
	keysAre(t, x, "a", "b", "c")
	lacks(t, x, "y", "z")
	one, other := x.Keys(), x.Keys()
	one[0] = "z"
	clear(one[:cap(one)])
	if !slices.Equal(other, []string{"a", "b", "c"}) {
		t.Errorf("R2: %q", other)
	}
	drops(t, x, "b", true)
	plays(t, x, "+d")
	if !slices.Equal(other, []string{"a", "b", "c"}) || !slices.Equal(l, []string{"z", "y", "y"}) {
		t.Errorf("R2: %q, %q", other, l)
	}
	keysAre(t, x, "a", "c", "d")
}

// 15.1: neither Clear nor Drop turns the time to live.
func TestClearLeavesTheTimeToLive(t *testing.T) {
	x := table.New()
	x.Expire(7)
	plays(t, x, "+a+b!!")
	isNotDue(t, x)
	x.Put("a", number(1), 100)
	isDue(t, x, 107)
	drops(t, x, "a", true)
	isNotDue(t, x)
	x.Put("b", number(1), 200)
	isDue(t, x, 207)
	purges(t, x, 206)
	purges(t, x, 207, "b")
}
