package nfa

const never = -1

// thread is a match under way: it stands at a part that takes a byte.
type thread struct {
	part int
	from int // where it began
}

// walk goes over a text with all matches under way at once. Of those that stand at the same part just the oldest is kept:
// they all go on alike, and wherever they end, it is the leftmost; back from the text's end, the longest.
type walk struct {
	*program
	text  string
	place int
	list  []thread // that stand at the place, the oldest first
	spare []thread // the memory of those of the place ahead
	pile  []int    // parts that are still to be reached
	seen  []int    // of each part the place, and 1, at which it was reached last
	ended int      // where the oldest one that ends at the place began; never, if none ends
}

// newWalk tells one that stands at a place, with nothing under way.
func newWalk(p *program, text string, place int) *walk {
	return &walk{program: p, text: text, place: place, seen: make([]int, len(p.parts)), ended: never}
}

// begin lets one more begin at the place, the youngest.
func (w *walk) begin() { w.reach(w.start, w.place) }

// ends tells whether a match ends at the place.
func (w *walk) ends() bool { return w.ended != never }

// match tells the oldest one that ends at the place, by its start and its end in the text.
func (w *walk) match() complex128 {
	if w.back {
		return complex(float64(w.place), float64(w.ended))
	}
	return complex(float64(w.ended), float64(w.place))
}

// dropYounger drops what began behind the one that ends at the place.
func (w *walk) dropYounger() {
	n := len(w.list)
	for n > 0 && w.list[n-1].from > w.ended {
		n--
	}
	w.list = w.list[:n]
}

// step goes over the next byte; false, if there is none.
func (w *walk) step() bool {
	at, to := w.place, w.place+1
	if w.back {
		at, to = w.place-1, w.place-1
	}
	if at < 0 || at == len(w.text) {
		return false
	}
	b := w.text[at]
	w.place, w.ended = to, never
	w.list, w.spare = w.spare[:0], w.list
	for _, t := range w.spare {
		if p := &w.parts[t.part]; p.set.Has(b) {
			w.reach(p.next, t.from)
		}
	}
	return true
}

// reach goes on from a part, over all that take no byte. What was reached at this place before is not gone through again: an
// older match has it, or it leads round to itself.
func (w *walk) reach(k, from int) {
	var p *part
	w.pile = append(w.pile[:0], k)
next:
	if len(w.pile) == 0 {
		return
	}
	k = w.pile[len(w.pile)-1]
	w.pile = w.pile[:len(w.pile)-1]
follow:
	if w.seen[k] == w.place+1 {
		goto next
	}
	w.seen[k] = w.place + 1
	p = &w.parts[k]
	switch p.kind {
	case final:
		w.ended = from
		goto next
	case takes:
		w.list = append(w.list, thread{part: k, from: from})
		goto next
	case first:
		if w.place != 0 {
			goto next
		}
	case last:
		if w.place != len(w.text) {
			goto next
		}
	case forks:
		w.pile = append(w.pile, p.other)
	}
	k = p.next
	goto follow
}
