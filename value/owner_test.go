package value_test

import (
	"fmt"
	"slices"
	"strings"
	"sync"
	"testing"
	"unsafe"

	"tailrace/api"
	"tailrace/pack"
	"tailrace/value"
)

// R1: nothing is laid to a nil Writer; a nil Reader is ErrArg.
func TestNilObjects(t *testing.T) {
	for _, v := range append(rights(), wrongs()...) {
		value.Lay(nil, v)
	}
	if v, e := value.Read(nil); !is(v, unset) || e != api.ErrArg {
		t.Errorf("R1: Read(nil): %s %d", short(v), e)
	}
}

// R1 and R7: texts and formats of many bytes.
func TestVeryLongOnes(t *testing.T) {
	const n = 1 << 24
	for _, s := range []string{"a", "7", " ", "%", "%%", "\xff"} {
		long := many(s, n/len(s))
		made(t, "13.1", "FromText", value.FromText(long), text(long[:api.MaxText]))
		if v := value.Outside(long); v.S != long[:api.MaxText] || !value.Right(v) {
			t.Errorf("13.1: Outside: %s", short(v))
		}
		for _, v := range []api.Val{text(long), strnum(long, inf), {S: long}, {Kind: api.Num, S: long}} {
			numbers(t, v, 0)
			reads(t, v, conv, "")
			counts(t, v, false)
			compares(t, v, unset, 0)
			reckons(t, "+", v, number(1), 1)
			if value.Right(v) || string(laid(v)) != "\x00" || !value.Same(v, v) {
				t.Errorf("13.1: %s", short(v))
			}
		}
		if x, e := value.ToText(number(0.5), long); x != "" || e < api.FaultZero {
			t.Errorf("13.2: ToText: %q %d", x, e)
		}
		if x, e := value.Arith(long, number(1), number(0)); !is(x, unset) || e != api.OK {
			t.Errorf("13.3: Arith: %s %d", short(x), e)
		}
	}
}

// R2: an answer is new memory, also where it is just what was given.
func TestAnswersAreNew(t *testing.T) {
	const some = "some text"
	shared := func(s, u string) bool { return unsafe.StringData(s) == unsafe.StringData(u) }
	for _, s := range []string{strings.Repeat("a", 20), strings.Repeat("7", 20), strings.Repeat("a", api.MaxText), strings.Repeat("a", 2*api.MaxText), some} {
		if v := value.FromText(s); shared(v.S, s) {
			t.Errorf("R2: FromText(%q) answers what it was given", s)
		}
		if v := value.Outside(s); shared(v.S, s) {
			t.Errorf("R2: Outside(%q) answers what it was given", s)
		}
		v := value.Outside(s)
		if x, _ := value.ToText(v, conv); x != v.S || shared(x, v.S) {
			t.Errorf("R2: ToText(%s) answers what it was given", short(v))
		}
		v = value.FromText(s)
		if x, _ := value.ToText(v, conv); x != v.S || shared(x, v.S) {
			t.Errorf("R2: ToText(%s) answers what it was given", short(v))
		}
		if x, _ := value.ToText(number(0.5), s); shared(x, s) {
			t.Errorf("R2: ToText(0.5, %q) answers what it was given", s)
		}
	}
}

// R2: what is read is new, and the bytes stay as they are; turned afterwards they turn no value.
func TestReadIsNew(t *testing.T) {
	want := []api.Val{text("abc"), strnum(" 10 ", 10), number(0.5), unset}
	given := laid(want...)
	was := slices.Clone(given)
	r := pack.NewReader(given)
	var got []api.Val
	for range want {
		v, _ := value.Read(r)
		got = append(got, v)
	}
	if !slices.Equal(given, was) {
		t.Errorf("R2: changed to % x", given)
	}
	for i := range given {
		given[i] = 'Q'
	}
	for i, v := range got {
		if !is(v, want[i]) {
			t.Errorf("R2: %s, want %s", short(v), short(want[i]))
		}
	}
}

// R4: each call tells the same however often, and at the same time.
func TestTheSameAgain(t *testing.T) {
	list := append(rights(), wrongs()...)
	tell := func() []string {
		var l []string
		for i, v := range list {
			w := list[(i*5+1)%len(list)]
			s, e := value.ToText(v, "%.3f")
			n, d := value.Compare(v, w, "%.3f")
			x, c := value.Arith("*", v, w)
			l = append(l, fmt.Sprint(value.Right(v), value.FromNum(v.N), value.FromText(v.S), value.Outside(v.S), value.ToNum(v), s, e, value.True(v), n, d, x, c, laid(v, w), value.Same(v, w)))
		}
		return l
	}
	want := tell()
	var group sync.WaitGroup
	for range 4 {
		group.Go(func() {
			if !slices.Equal(tell(), want) {
				t.Error("R4: not the same again")
			}
		})
	}
	group.Wait()
}
