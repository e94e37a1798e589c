package nfa

import (
	"tailrace/class"
	"tailrace/ere"
)

// Kinds of parts.
const (
	final = iota // all is matched
	takes        // it takes a byte of its set
	forks        // it leads on to two parts
	first        // it leads on at the text's beginning
	last         // it leads on at the text's end
)

// part is one that a machine may stand at; it leads on to others by their places in the program.
type part struct {
	kind        int
	set         class.Set
	next, other int
}

// program is a machine's parts, for going over a text one way.
type program struct {
	parts []part // the final one is the first
	start int
	back  bool // it goes over the text from its end, and so through the tree
}

func build(r ere.Re, back bool) program {
	p := program{parts: []part{{kind: final}}, back: back}
	p.start = p.lay(r, 0)
	return p
}

// lay puts down a tree's parts, which lead on to next, and tells the one that they begin with.
func (p *program) lay(r ere.Re, next int) int {
	switch r.Kind {
	case ere.Set:
		return p.add(part{kind: takes, set: r.Set, next: next})
	case ere.First:
		return p.add(part{kind: first, next: next})
	case ere.Last:
		return p.add(part{kind: last, next: next})
	case ere.Cat:
		if p.back {
			return p.lay(r.Kids[1], p.lay(r.Kids[0], next))
		}
		return p.lay(r.Kids[0], p.lay(r.Kids[1], next))
	case ere.Alt:
		return p.add(part{kind: forks, next: p.lay(r.Kids[0], next), other: p.lay(r.Kids[1], next)})
	case ere.Star, ere.Plus, ere.Opt:
		return p.laySigns(r, next)
	}
	return next
}

// laySigns puts down the signs that stand right above one another as a single one: what one of them lets be left out, or come
// again, all of them do.
func (p *program) laySigns(r ere.Re, next int) int {
	var none, again bool
	for isSign(r.Kind) {
		none = none || r.Kind != ere.Plus
		again = again || r.Kind != ere.Opt
		r = r.Kids[0]
	}
	if !again {
		return p.add(part{kind: forks, next: p.lay(r, next), other: next})
	}
	fork := p.add(part{kind: forks, other: next})
	begin := p.lay(r, fork)
	p.parts[fork].next = begin
	if none {
		return fork
	}
	return begin
}

func isSign(kind int) bool { return kind == ere.Star || kind == ere.Plus || kind == ere.Opt }

// add puts down one more part and tells its place.
func (p *program) add(q part) int {
	p.parts = append(p.parts, q)
	return len(p.parts) - 1
}
