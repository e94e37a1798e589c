package split_test

import (
	"math/rand"
	"slices"
	"strings"
	"testing"

	"tailrace/split"
)

// recordsOf tells the records of a whole text at once, each of most bytes at most.
func recordsOf(text, rs string, most int) []string {
	var l []string
	end := "\n\n"
	if rs != "" {
		end = rs[:1]
	}
	for {
		if rs == "" {
			text = strings.TrimLeft(text, "\n")
		}
		record, behind, ok := strings.Cut(text, end)
		if !ok {
			break
		}
		l, text = append(l, record), behind
	}
	if rs == "" {
		text = strings.TrimSuffix(text, "\n")
	}
	if text != "" {
		l = append(l, text)
	}
	for i := range l {
		l[i] = l[i][:min(most, len(l[i]))]
	}
	return l
}

// 7.5: a text in all cuts, laid and read at each of them or not: the records are the same, and Held is never above most.
func TestAllCuts(t *testing.T) {
	for _, text := range []string{"ab\n\n\ncd\na", "\n\na;\n;b\n\n", ";;abc;d\n;", "\na\nb\nc\n\n", "abcdefghij", "\n\n\n\n\n\n\n\n\n\n", "a\n\nb\n\nc\n\n"} {
		for _, rs := range []string{"\n", ";", "", "\n\n", "x"} {
			for most := 1; most < 5; most++ {
				want := recordsOf(text, rs, most)
				for cuts := range 1 << (len(text) - 1) {
					for _, layAndRead := range []bool{false, true} {
						if l := inPieces(t, text, rs, most, cuts, layAndRead); !slices.Equal(l, want) {
							t.Fatalf("%q by %q, most %d, cuts %b: %q, want %q", text, rs, most, cuts, l, want)
						}
					}
				}
			}
		}
	}
}

// inPieces tells the records of a text that is cut behind each byte whose bit is in cuts.
func inPieces(t *testing.T, text, rs string, most, cuts int, layAndRead bool) []string {
	s := made(t, most)
	var l []string
	began := 0
	for i := range text {
		if cuts>>i&1 == 0 && i < len(text)-1 {
			continue
		}
		s.Feed([]byte(text[began : i+1]))
		began = i + 1
		if layAndRead {
			s = from(t, laid(s), most)
		}
		l = append(l, drain(s, rs)...)
		if n := s.Held(); n > most {
			t.Errorf("Held: %d, most %d", n, most)
		}
	}
	return append(l, drainRest(s, rs)...)
}

// W2: where nothing is passed over, the records with what ends them are the bytes that were fed, each once.
func TestRecordsBearAllBytes(t *testing.T) {
	pick := rand.New(rand.NewSource(7))
	for range 500 {
		s := made(t, 200)
		var fed, told strings.Builder
		for range pick.Intn(20) {
			piece := picked(pick, "ab;\n\x00", 40)
			fed.WriteString(piece)
			s.Feed([]byte(piece))
			if pick.Intn(2) == 0 {
				continue
			}
			for _, record := range drain(s, "\n") {
				told.WriteString(record + "\n")
			}
		}
		for _, record := range drainRest(s, "\n") {
			told.WriteString(record + "\n")
		}
		if all := told.String(); all != fed.String() && all != fed.String()+"\n" {
			t.Fatalf("fed %q, told %q", fed.String(), all)
		}
	}
}

func picked(pick *rand.Rand, of string, most int) string {
	b := make([]byte, pick.Intn(most))
	for i := range b {
		b[i] = of[pick.Intn(len(of))]
	}
	return string(b)
}

// plain is the plainest splitter: it keeps all of a record, and looks at the first byte of what is ahead by itself.
type plain struct {
	most   int
	record string
	waits  bool
	ahead  string
}

func (p *plain) held() int { return min(p.most, len(p.record)) }

func (p *plain) end() (string, bool) {
	record := p.record[:p.held()]
	p.record, p.waits = "", false
	return record, true
}

func (p *plain) next(rs string) (string, bool) {
	if rs != "" && p.waits {
		p.ahead, p.waits = "\n"+p.ahead, false
	}
	if p.ahead == "" {
		return "", false
	}
	first := p.ahead[:1]
	p.ahead = p.ahead[1:]
	switch {
	case rs != "" && first == rs[:1], rs == "" && first == "\n" && p.waits:
		return p.end()
	case rs == "" && first == "\n":
		p.waits = p.record != ""
	case p.waits:
		p.record, p.waits = p.record+"\n"+first, false
	default:
		p.record += first
	}
	return p.next(rs)
}

func (p *plain) rest(rs string) (string, bool) {
	if record, ok := p.next(rs); ok {
		return record, true
	}
	if p.record == "" {
		return "", false
	}
	return p.end()
}

// laid tells what is laid; all lengths are below 128.
func (p *plain) laid() string {
	how := 0
	if len(p.record) > p.most {
		how++
	}
	if p.waits {
		how += 2
	}
	return string([]byte{byte(p.held())}) + p.record[:p.held()] + string([]byte{byte(how), byte(len(p.ahead))}) + p.ahead
}

// 7.2 to 7.5: picked calls with separators that turn, held against the plainest splitter at each moment.
func TestPickedCalls(t *testing.T) {
	separators := []string{"\n", ";", "", "", ";\n", "\n;", "a"}
	counts := map[bool]int{}
	for seed := range int64(3000) {
		pick := rand.New(rand.NewSource(seed))
		most := 1 + pick.Intn(6)
		s, p := made(t, most), &plain{most: most}
		for n := range 40 {
			rs := separators[pick.Intn(len(separators))]
			var record, want string
			var ok, is bool
			switch pick.Intn(7) {
			case 0, 1, 2:
				if len(p.ahead) < 80 {
					piece := picked(pick, "ab;\n\n\n", 9)
					s.Feed([]byte(piece))
					p.ahead += piece
				}
			case 3:
				s = from(t, laid(s), most)
			case 4, 5:
				record, ok = s.Next(rs)
				want, is = p.next(rs)
				counts[ok]++
			case 6:
				record, ok = s.Rest(rs)
				want, is = p.rest(rs)
				counts[ok]++
			}
			if record != want || ok != is || s.Held() != p.held() || laid(s) != p.laid() {
				t.Fatalf("seed %d, call %d, by %q: %q, %v, %q; want %q, %v, %q", seed, n, rs, record, ok, laid(s), want, is, p.laid())
			}
		}
	}
	if counts[true] < 5000 || counts[false] < 5000 {
		t.Errorf("records were told or not: %v", counts)
	}
}

// 7.5 and W6: of a record without an end no more than most bytes are held, however many are fed.
func TestHeldIsNeverAboveMost(t *testing.T) {
	for _, rs := range []string{";", ""} {
		for _, most := range []int{1, 7, 200} {
			s := made(t, most)
			for n := range 300 {
				s.Feed([]byte("abc"))
				if _, ok := s.Next(rs); ok || s.Held() != min(most, 3*n+3) {
					t.Fatalf("most %d, %d bytes: %d are held", most, 3*n+3, s.Held())
				}
			}
			if b := laid(s); len(b) > most+4 {
				t.Errorf("most %d: %d bytes are laid", most, len(b))
			}
		}
	}
}

// R8 and R4: splitters know nothing of one another, and what one tells is told by another that was told the same.
func TestSplittersAreAlone(t *testing.T) {
	a, b, c := made(t, 3), made(t, 3), made(t, 9)
	for _, s := range []*split.Splitter{a, b} {
		feed("abcd\n")(t, s)
		next("", none)(t, s)
		feed("\nx")(t, s)
	}
	lays("\x00\x00\x00")(t, c)
	next("", "abc")(t, a)
	rest("", "x")(t, a)
	lays("\x03abc\x03\x02\nx")(t, b)
	next("", "abc")(t, b)
	rest("", "x")(t, b)
	next("", none)(t, c)
}
