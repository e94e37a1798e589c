package ere

import (
	"slices"

	"tailrace/api"
	"tailrace/class"
)

// part is a tree under way, with how many leaves it has and how deep it goes.
type part struct {
	re     Re
	leaves int
	height int
}

// over stands for each part that is too great for a right tree. It is not built, as repeats in one another would make it as
// great as one likes; whatever has it in it is over, too.
func over() part { return part{leaves: api.MaxSets + 1, height: api.MaxNest + 1} }

func (p part) fits() bool { return p.leaves <= api.MaxSets && p.height <= api.MaxNest }

// leaf is a part without kids.
func leaf(kind int) part { return part{re: Re{Kind: kind}, leaves: 1, height: 1} }

// among is a part that is one byte of the set.
func among(s class.Set) part { return part{re: Re{Kind: Set, Set: s}, leaves: 1, height: 1} }

// one is a part with one kid.
func one(kind int, kid part) part {
	p := part{leaves: kid.leaves, height: kid.height + 1}
	if !p.fits() {
		return over()
	}
	p.re = Re{Kind: kind, Kids: []Re{kid.re}}
	return p
}

// two is a part with two kids.
func two(kind int, first, second part) part {
	p := part{leaves: first.leaves + second.leaves, height: max(first.height+1, second.height)}
	if !p.fits() {
		return over()
	}
	p.re = Re{Kind: kind, Kids: []Re{first.re, second.re}}
	return p
}

// list is parts that are to be joined.
type list struct {
	parts  []part
	leaves int
}

func (l *list) add(p part) {
	l.leaves += p.leaves
	if l.leaves > api.MaxSets {
		l.parts = nil
		return
	}
	l.parts = append(l.parts, p)
}

// joined tells the first one and, behind it, the others joined; just the one, if there are no others.
func (l *list) joined(kind int) part {
	if l.leaves > api.MaxSets {
		return over()
	}
	last := len(l.parts) - 1
	p := l.parts[last]
	for k := last - 1; k >= 0; k-- {
		p = two(kind, l.parts[k], p)
	}
	return p
}

// times says how often something stands in a row: least often, up to most often, or with no end.
type times struct {
	least, most int
	endless     bool
}

// again tells the part so many times in a row.
func (p part) again(t times) part {
	n := t.most
	if t.endless {
		n++
	}
	if n == 0 {
		return leaf(Empty)
	}
	if n*p.leaves > api.MaxSets {
		return over()
	}
	var l list
	for k := range n {
		q := p
		if k > 0 {
			q.re = copied(p.re)
		}
		switch {
		case k < t.least:
			l.add(q)
		case t.endless:
			l.add(one(Star, q))
		default:
			l.add(one(Opt, q))
		}
	}
	return l.joined(Cat)
}

// copied tells the same tree in memory of its own.
func copied(r Re) Re {
	r.Kids = slices.Clone(r.Kids)
	for i, kid := range r.Kids {
		r.Kids[i] = copied(kid)
	}
	return r
}
