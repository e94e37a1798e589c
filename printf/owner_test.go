package printf_test

import (
	"slices"
	"strings"
	"sync"
	"testing"
	"unsafe"

	"tailrace/api"
	"tailrace/printf"
)

// R2: arguments that are handed in as a list are not changed, nor is its spare room.
func TestArgumentsAreNotChanged(t *testing.T) {
	for _, f := range []string{"", "%d", "%*.*f %s", "%s%s%s%s%s%s", "%c%*c", "%q", "%*d", "%201d", "%200d%200d"} {
		room := []printf.Arg{n(2), n(1), {N: 3, S: "three", IsNum: true}, s("x"), n(5), s("spare"), n(7)}
		want := slices.Clone(room)
		args := room[:4]
		first, e := printf.Format(f, args...)
		if !slices.Equal(room, want) {
			t.Errorf("R2: Format(%q): %v, want %v", f, room, want)
		}
		clear(room)
		copy(room, want)
		if again, is := printf.Format(f, args...); again != first || is != e {
			t.Errorf("R4: Format(%q): %q %d, want %q %d", f, again, is, first, e)
		}
	}
}

// R2: an answer is new memory, also where it is just the format, or just an argument.
func TestAnswersAreNew(t *testing.T) {
	text := strings.Repeat("some text ", 5)
	for f, a := range map[string]printf.Arg{text: {}, "%s": s(text), "%.200s": s(text), "%3s": s(text)} {
		x, e := printf.Format(f, a)
		if x != text || e != api.OK {
			t.Fatalf("R2: Format(%q): %q %d", f, x, e)
		}
		if at := unsafe.StringData(x); at == unsafe.StringData(f) || at == unsafe.StringData(a.S) {
			t.Errorf("R2: Format(%q) answers what it was given", f)
		}
	}
	if x, _ := printf.Number(0.5, text); unsafe.StringData(x) == unsafe.StringData(text) {
		t.Error("R2: Number answers what it was given")
	}
}

// 12.1: nil, no list and an empty list are the same.
func TestNoArguments(t *testing.T) {
	for _, f := range []string{"", "%d%s%c", "%*d", "%.*f", "%5", "%q"} {
		want, e := printf.Format(f)
		for _, args := range [][]printf.Arg{nil, {}, make([]printf.Arg, 0, 5)} {
			if x, is := printf.Format(f, args...); x != want || is != e {
				t.Errorf("R2: Format(%q): %q %d, want %q %d", f, x, is, want, e)
			}
		}
	}
}

// R4: each call tells the same however often, and at the same time.
func TestTheSameAgain(t *testing.T) {
	formats, numbers := shortTexts("%d*.5s", 4), some()
	tell := func() []string {
		var l []string
		for _, f := range formats {
			x, e := printf.Format(f, n(3), s("text"), n(-1.5))
			l = append(l, x, string(rune(e)))
		}
		for _, a := range numbers {
			x, e := printf.Number(a, "%.6g")
			l = append(l, x, string(rune(e)))
		}
		return l
	}
	want := tell()
	var group sync.WaitGroup
	for range 4 {
		group.Go(func() {
			if !slices.Equal(tell(), want) {
				t.Error("R4: not the same again")
			}
		})
	}
	group.Wait()
}
