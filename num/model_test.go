package num_test

import (
	"math"
	"math/big"
	"math/rand"
	"regexp"
	"strconv"
	"strings"
	"sync"
	"testing"

	"tailrace/num"
)

// first is what 11.1 says of a text's beginning, told as a regular expression: blanks; the sign and the numeral.
var first = regexp.MustCompile(`^([\t\n\v\f\r ]*)([+-]?(?:[0-9]+(?:\.[0-9]*)?|\.[0-9]+)(?:[eE][+-]?[0-9]+)?)`)

// picked tells numbers of all bits: any at all, such as are whole or nearly so, and those near a power of ten.
func picked(n int) []float64 {
	pick := rand.New(rand.NewSource(11))
	var l []float64
	for len(l) < n {
		whole := float64(pick.Int63() >> pick.Intn(63))
		ten := math.Pow10(pick.Intn(40) - 10)
		l = append(l, math.Float64frombits(pick.Uint64()), whole, -whole, whole+pick.Float64(), whole/4, ten, math.Nextafter(ten, 0), -math.Nextafter(ten, inf), pick.NormFloat64())
	}
	return l[:n]
}

// exactly tells the number next to what a sign and a numeral say, reckoned with whole numbers of any size; what lies in the
// midst of two is that one whose last bit is 0.
func exactly(t *testing.T, s string) float64 {
	t.Helper()
	z, ok := new(big.Rat).SetString(s)
	if !ok {
		t.Fatalf("the model can't read %q", s)
	}
	x, _ := z.Float64()
	if x == 0 {
		return 0
	}
	return x
}

// holds wants of a text what the regular expression and the exact number tell.
func holds(t *testing.T, s string) {
	t.Helper()
	m := first.FindStringSubmatch(s)
	if m == nil {
		reads(t, s, 0, 0)
		looks(t, s, false)
		return
	}
	reads(t, s, exactly(t, m[2]), len(m[0]))
	looks(t, s, strings.Trim(s[len(m[0]):], blanks) == "")
}

// texts tells all texts of these bytes that are no longer than n.
func texts(bytes string, n int) []string {
	l := []string{""}
	from := 0
	for range n {
		to := len(l)
		for _, s := range l[from:to] {
			for i := range len(bytes) {
				l = append(l, s+bytes[i:i+1])
			}
		}
		from = to
	}
	return l
}

// 11.1 and W4: all short texts of the bytes that bear a meaning.
func TestAllShortTexts(t *testing.T) {
	for _, s := range texts("01.e+- x", 6) {
		holds(t, s)
	}
	for _, s := range texts("9.E-\n_", 5) {
		holds(t, s)
		holds(t, "\t3"+s)
	}
}

// 11.1: picked texts, mostly of the bytes that bear a meaning.
func TestPickedTexts(t *testing.T) {
	const bytes = "00123456789999..eeE+-- \t\n\v\f\r_xinfa\x00\xff"
	pick := rand.New(rand.NewSource(1))
	for range 100000 {
		var b strings.Builder
		for range pick.Intn(14) {
			b.WriteByte(bytes[pick.Intn(len(bytes))])
		}
		s := b.String()
		// An exponent of many digits would take the model ages.
		if m := first.FindString(s); len(m)-strings.IndexAny(m+"e", "eE") <= 5 {
			holds(t, s)
		}
	}
}

// 11.1: picked numerals, with blanks and signs.
func TestPickedNumerals(t *testing.T) {
	pick := rand.New(rand.NewSource(3))
	digits := func(most int) string {
		b := make([]byte, pick.Intn(most+1))
		for i := range b {
			b[i] = byte('0' + pick.Intn(10))
		}
		return string(b)
	}
	one := func(l ...string) string { return l[pick.Intn(len(l))] }
	for range 30000 {
		s := one("", "", " ", "\t\r", "\n\n ") + one("", "+", "-") + digits(25) + one("", ".", "."+digits(25))
		s += one("", "", "e", "E+", one("e", "E")+one("", "+", "-")+digits(2)+digits(1)) + one("", "", " ", "\v\f", "x", " x", ".")
		holds(t, s)
	}
}

// 11.1: each number's own texts are read as it.
func TestTextsOfNumbersAreRead(t *testing.T) {
	for _, x := range append(finite(), picked(20000)...) {
		if math.IsNaN(x) || math.IsInf(x, 0) {
			continue
		}
		want := x
		if x == 0 {
			want = 0
		}
		for _, letter := range []byte("eEf") {
			s := strconv.FormatFloat(x, letter, -1, 64)
			reads(t, s, want, len(s))
			reads(t, " "+s+"\n", want, len(s)+1)
			looks(t, " "+s+"\n", true)
		}
		s := num.Digits(x)
		reads(t, s, math.Trunc(want)+0, len(s))
	}
}

// 11.2: no answer of the package is -0.
func TestNoAnswerIsMinusZero(t *testing.T) {
	l := append(some(), picked(200)...)
	for _, a := range l {
		if s := num.Digits(a); s == "" || strings.HasPrefix(s, "-0") {
			t.Errorf("11.2: Digits(%v): %q", a, s)
		}
		for _, b := range l {
			for _, x := range []float64{num.Power(a, b), num.Rest(a, b)} {
				if x == 0 && math.Signbit(x) {
					t.Errorf("11.2: of %v and %v: -0", a, b)
				}
			}
		}
	}
	for _, s := range texts("0.e-1", 6) {
		if x, _ := num.Prefix("-" + s); x == 0 && math.Signbit(x) {
			t.Errorf("11.2: Prefix(%q): -0", "-"+s)
		}
	}
}

// R4: each call tells the same however often, and at the same time.
func TestTheSameAgain(t *testing.T) {
	list, numbers := texts("1.e- ", 4), some()
	tell := func() []uint64 {
		var l []uint64
		for _, s := range list {
			x, at := num.Prefix(s)
			l = append(l, math.Float64bits(x), uint64(at))
		}
		for _, a := range numbers {
			for _, b := range numbers {
				l = append(l, math.Float64bits(num.Power(a, b)), math.Float64bits(num.Rest(a, b)), uint64(num.Less(a, b)), uint64(len(num.Digits(a))))
			}
		}
		return l
	}
	want := tell()
	var group sync.WaitGroup
	for range 4 {
		group.Go(func() {
			for i, x := range tell() {
				if x != want[i] {
					t.Errorf("R4: answer %d: %x, want %x", i, x, want[i])
				}
			}
		})
	}
	group.Wait()
}
