package printf_test

import (
	"fmt"
	"math"
	"math/big"
	"math/rand"
	"regexp"
	"strings"
	"testing"

	"tailrace/api"
	"tailrace/printf"
)

// form is a conversion as 12.1 says it, told as a regular expression: flags, width, precision, letter.
var form = regexp.MustCompile(`^%([-+ 0]*)(\*|[0-9]*)(?:(\.)(\*|[0-9]*))?([diuoxXfFeEgGcs])`)

// shortTexts tells all texts of these bytes that are no longer than n.
func shortTexts(bytes string, n int) []string {
	l := []string{""}
	from := 0
	for range n {
		to := len(l)
		for _, s := range l[from:to] {
			for i := range len(bytes) {
				l = append(l, s+bytes[i:i+1])
			}
		}
		from = to
	}
	return l
}

// exactly tells a finite number's whole part, of any size.
func exactly(x float64) *big.Int {
	z, _ := big.NewFloat(x).Int(nil)
	return z
}

// isFinite asks package math.
func isFinite(x float64) bool { return !math.IsNaN(x) && !math.IsInf(x, 0) }

// model is the plainest reader of formats.
type model struct {
	args []printf.Arg
	out  strings.Builder
}

func (m *model) take() (a printf.Arg) {
	if len(m.args) > 0 {
		a, m.args = m.args[0], m.args[1:]
	}
	return a
}

// count tells a width or a precision; false, if it may not be. A precision below 0 may be of any size.
func (m *model) count(text string, precision bool) (int, bool) {
	z := new(big.Int)
	if text == "*" {
		x := m.take().N
		if !isFinite(x) {
			return 0, false
		}
		z = exactly(x)
	} else if text != "" {
		z.SetString(text, 10)
	}
	if precision && z.Sign() < 0 {
		return -1, true
	}
	if new(big.Int).Abs(z).Cmp(big.NewInt(api.MaxWidth)) > 0 {
		return 0, false
	}
	return int(z.Int64()), true
}

// run tells what a format comes to, in full.
func (m *model) run(f string) (string, api.Errno) {
	for f != "" {
		if strings.HasPrefix(f, "%%") {
			m.out.WriteByte('%')
			f = f[2:]
			continue
		}
		if f[0] != '%' {
			m.out.WriteByte(f[0])
			f = f[1:]
			continue
		}
		p := form.FindStringSubmatch(f)
		if p == nil {
			return "", api.FaultFormat
		}
		width, ok := m.count(p[2], false)
		prec, right := -1, true
		if p[3] != "" {
			prec, right = m.count(p[4], true)
		}
		if !ok || !right {
			return "", api.FaultFormat
		}
		m.fill(p[1], width, prec, p[5], m.take())
		f = f[len(p[0]):]
	}
	if m.out.Len() > api.MaxText {
		return "", api.FaultText
	}
	return m.out.String(), api.OK
}

// fill lays a conversion's text in its width.
func (m *model) fill(flags string, width, prec int, letter string, a printf.Arg) {
	text := plainly(flags, prec, letter, a)
	if width < 0 {
		flags, width = "-", -width
	}
	noughts := strings.Contains(flags, "0") && !strings.Contains("cs", letter) && isFinite(a.N) && (prec < 0 || !strings.Contains("diuoxX", letter))
	for len(text) < width {
		switch {
		case strings.Contains(flags, "-"):
			text += " "
		case noughts && strings.Contains("+- ", text[:1]):
			text = text[:1] + "0" + text[1:]
		case noughts:
			text = "0" + text
		default:
			text = " " + text
		}
	}
	m.out.WriteString(text)
}

// plainly tells what a letter makes of an argument, without a width.
func plainly(flags string, prec int, letter string, a printf.Arg) string {
	plus := ""
	if !strings.Contains("uoxX", letter) {
		if strings.Contains(flags, " ") {
			plus = " "
		}
		if strings.Contains(flags, "+") {
			plus = "+"
		}
	}
	switch {
	case letter == "s" && prec >= 0 && prec < len(a.S):
		return a.S[:prec]
	case letter == "s":
		return a.S
	case letter == "c" && !a.IsNum:
		return (a.S + "x")[:min(len(a.S), 1)]
	case letter == "c" && (!isFinite(a.N) || a.N < 0 || a.N >= 1<<53):
		return "\x00"
	case letter == "c":
		return string([]byte{byte(new(big.Int).Mod(exactly(a.N), big.NewInt(256)).Int64())})
	case math.IsNaN(a.N):
		return plus + "nan"
	case a.N < -greatest:
		return "-inf"
	case a.N > greatest:
		return plus + "inf"
	case strings.Contains("diuoxX", letter):
		return wholly(plus, prec, letter, exactly(a.N))
	}
	return broken(plus, prec, letter, a.N)
}

// wholly tells a whole number's digits.
func wholly(plus string, prec int, letter string, z *big.Int) string {
	base := 10
	if z.Sign() >= 0 && z.BitLen() <= 64 && strings.Contains("oxX", letter) {
		base = map[string]int{"o": 8, "x": 16, "X": 16}[letter]
	}
	text := new(big.Int).Abs(z).Text(base)
	if letter == "X" {
		text = strings.ToUpper(text)
	}
	for len(text) < prec {
		text = "0" + text
	}
	if z.Sign() < 0 {
		return "-" + text
	}
	return plus + text
}

// broken tells a float by package big, which rounds what it reckons exactly.
func broken(plus string, prec int, letter string, x float64) string {
	if prec < 0 {
		prec = 6
	}
	if x < 0 {
		plus = "-"
	}
	size := new(big.Float).Abs(big.NewFloat(x))
	return plus + size.Text(strings.Replace(letter, "F", "f", 1)[0], prec)
}

// holds wants of a format and its arguments what the model tells.
func holds(t *testing.T, f string, args ...printf.Arg) {
	t.Helper()
	m := model{args: args}
	want, e := m.run(f)
	if x, is := printf.Format(f, args...); x != want || is != e {
		t.Errorf("12.1: Format(%s; %s): %s %d, want %s %d", short(f), shortly(args), short(x), is, short(want), e)
	}
}

// 12.1 and W4: all short formats of the bytes that bear a meaning.
func TestAllShortFormats(t *testing.T) {
	args := []printf.Arg{n(3), n(-2.5), {N: 7, S: "seven"}, s("text")}
	for _, bytes := range []string{"%-05.*d", "%+ 2.*s", "%0.*fq", "%. 1xc"} {
		for _, f := range shortTexts(bytes, 5) {
			holds(t, f, args...)
			holds(t, "%"+f, args...)
		}
	}
	for _, f := range shortTexts("%d*.", 6) {
		holds(t, f, args[1:]...)
		holds(t, f)
	}
}

// pieces are what picked formats are made of.
type pieces struct{ pick *rand.Rand }

func (p pieces) one(l ...string) string { return l[p.pick.Intn(len(l))] }

// arg picks an argument.
func (p pieces) arg() printf.Arg {
	numbers := some()
	x := numbers[p.pick.Intn(len(numbers))]
	switch p.pick.Intn(5) {
	case 0:
		x = float64(p.pick.Intn(500) - 250)
	case 1:
		x = p.pick.NormFloat64() * math.Pow10(p.pick.Intn(40)-15)
	case 2:
		x = math.Float64frombits(p.pick.Uint64())
	}
	text := p.one("", "a", "abc", "\u00e9\x00", "12.5e1", strings.Repeat("z", p.pick.Intn(300)))
	return printf.Arg{N: x, S: text, IsNum: p.pick.Intn(2) == 0}
}

// args picks some.
func (p pieces) args() []printf.Arg {
	var l []printf.Arg
	for range p.pick.Intn(6) {
		l = append(l, p.arg())
	}
	return l
}

// conversion picks one, mostly a right one.
func (p pieces) conversion() string {
	f := "%"
	for range p.pick.Intn(4) {
		f += p.one("-", "+", " ", "0", "")
	}
	f += p.one("", "", "3", "12", "25", "*", fmt.Sprint(p.pick.Intn(203)))
	f += p.one("", "", ".", ".0", ".1", ".2", ".5", ".17", ".*", fmt.Sprint(".", p.pick.Intn(203)))
	at := p.pick.Intn(len(letters))
	return f + p.one(letters[at:at+1], letters[at:at+1], letters[at:at+1], p.one("", "%", "q", "\x00", "l", "*"))
}

// 12.1 to 12.3: picked formats and arguments.
func TestPickedFormats(t *testing.T) {
	p := pieces{rand.New(rand.NewSource(12))}
	for range 200000 {
		f := p.one("", "", "x", "%%", "-5d")
		for range 1 + p.pick.Intn(3) {
			f += p.conversion() + p.one("", "", "", " ", "%%", "\n", "\xff")
		}
		holds(t, f, p.args()...)
	}
}

// 12.1 and R1: picked bytes.
func TestPickedBytes(t *testing.T) {
	const bytes = "%%%%%%%--++  00123456789...***diuoxXfFegcsq\n\x00\xff"
	p := pieces{rand.New(rand.NewSource(1))}
	for range 200000 {
		var b strings.Builder
		for range p.pick.Intn(12) {
			b.WriteByte(bytes[p.pick.Intn(len(bytes))])
		}
		holds(t, b.String(), p.args()...)
	}
}

// 12.2 and 12.3: each letter, with flags, widths and precisions, of each number.
func TestEachLetterOfEachNumber(t *testing.T) {
	for _, x := range some() {
		for _, flags := range []string{"", "-", "+", " ", "0", "+0", " 0", "-0", "+ "} {
			for _, width := range []string{"", "1", "5", "12", "30"} {
				for _, prec := range []string{"", ".", ".1", ".3", ".20"} {
					for _, letter := range strings.Split(letters, "") {
						holds(t, "%"+flags+width+prec+letter, printf.Arg{N: x, S: "text", IsNum: true})
					}
				}
			}
		}
	}
}

// 12.2 and 12.3: where package fmt means the same, it tells the same: of floats with a precision, but of -0.
func TestFloatsAsFmt(t *testing.T) {
	pick := rand.New(rand.NewSource(2))
	for _, x := range some() {
		if !isFinite(x) || x == 0 {
			continue
		}
		for range 300 {
			letter := string("fFeEgG"[pick.Intn(6)])
			f := "%" + pieces{pick}.one("", "-", "+", " ", "0", "+0", " 0", "-+") + fmt.Sprint(1+pick.Intn(40), ".", pick.Intn(30)) + letter
			if want := fmt.Sprintf(f, x); len(want) <= api.MaxText {
				gives(t, "12.3", f, want, n(x))
			}
		}
	}
}

// 12.2 and 12.3: likewise of whole numbers of any size by d, and of those that are not below 0 by o, x, X.
func TestWholeNumbersAsFmt(t *testing.T) {
	pick := rand.New(rand.NewSource(3))
	for _, x := range some() {
		if !isFinite(x) || math.Abs(x) > 1e200 {
			continue
		}
		z := exactly(x)
		for range 300 {
			letter, flags := "d", pieces{pick}.one("", "-", "+", " ", "0", "+0", " 0", "-+")
			if z.Sign() >= 0 && z.BitLen() <= 64 && pick.Intn(2) == 0 {
				letter, flags = string("oxX"[pick.Intn(3)]), pieces{pick}.one("", "-", "0", "-0")
			}
			f := "%" + flags + fmt.Sprint(1+pick.Intn(40)) + pieces{pick}.one("", fmt.Sprint(".", 1+pick.Intn(30))) + letter
			gives(t, "12.3", f, fmt.Sprintf(f, z), n(x))
		}
	}
}
