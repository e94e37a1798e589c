package ere_test

import (
	"math"
	"math/rand"
	"slices"
	"strconv"
	"testing"

	"tailrace/class"
	"tailrace/ere"
)

// 9.1: the kinds are the numbers from 0 on, in the document's order.
func TestKinds(t *testing.T) {
	want := []int{empty, set, cat, alt, star, plus, opt, first, last}
	if l := []int{ere.Empty, ere.Set, ere.Cat, ere.Alt, ere.Star, ere.Plus, ere.Opt, ere.First, ere.Last}; !slices.Equal(l, want) {
		t.Errorf("9.1: %v", l)
	}
}

// 9.1: a tree of each kind alone, with as many kids as it asks for.
func TestRightOfEachKind(t *testing.T) {
	for _, r := range []ere.Re{{}, {Kind: set}, {Kind: set, Set: full}, of("a"), {Kind: first}, {Kind: last}, {Kids: []ere.Re{}}, {Kind: last, Kids: []ere.Re{}}} {
		judges(t, told(r), r, true, 1)
		for kind := star; kind <= opt; kind++ {
			judges(t, told(r)+" below "+strconv.Itoa(kind), tree(kind, r), true, 1)
		}
		for kind := cat; kind <= alt; kind++ {
			judges(t, told(r)+" twice below "+strconv.Itoa(kind), tree(kind, r, r), true, 2)
			judges(t, told(r)+" thrice below "+strconv.Itoa(kind), tree(kind, tree(kind, r, r), r), true, 3)
		}
	}
}

// wrong are trees that are not right by their tops alone.
func wrong() map[string]ere.Re {
	a := of("a")
	l := map[string]ere.Re{}
	for _, kind := range []int{-1, 9, 10, -9, 256, 1 << 32, math.MaxInt, math.MinInt} {
		for n := range 3 {
			l["kind "+strconv.Itoa(kind)+" of "+strconv.Itoa(n)] = tree(kind, many(n, a)...)
		}
	}
	for kind := empty; kind <= last; kind++ {
		kids := 0
		switch {
		case kind == cat || kind == alt:
			kids = 2
		case kind >= star && kind <= opt:
			kids = 1
		}
		for n := range 5 {
			if n != kids {
				l[strconv.Itoa(n)+" kids of "+strconv.Itoa(kind)] = tree(kind, many(n, a)...)
			}
		}
		for word := range 4 {
			r := tree(kind, many(kids, a)...)
			r.Set[word] = 1 << (20 * word)
			if kind != set {
				l["word "+strconv.Itoa(word)+" of "+strconv.Itoa(kind)] = r
			}
		}
	}
	l["a thousand kids"] = tree(cat, many(1000, a)...)
	return l
}

// 9.1: a kind that is none, a kid too many or too few, a Set beside another kind: at the top, and wherever else.
func TestRightOfWrongTrees(t *testing.T) {
	a := of("a")
	for name, r := range wrong() {
		judges(t, name, r, false, 0)
		for kind := star; kind <= opt; kind++ {
			judges(t, name+" below a sign", tree(kind, r), false, 0)
		}
		for kind := cat; kind <= alt; kind++ {
			judges(t, name+" first", tree(kind, r, a), false, 0)
			judges(t, name+" second", tree(kind, a, r), false, 0)
			judges(t, name+" in the midst", row(kind, a, a, signs(3, plus, r), a), false, 0)
			judges(t, name+" last", row(kind, append(many(30, a), r)...), false, 0)
		}
		judges(t, name+" deep", signs(39, star, r), false, 0)
	}
}

// 9.1: signs above one another: as many as may be, and one more.
func TestRightOfDepthBySigns(t *testing.T) {
	for kind := star; kind <= opt; kind++ {
		for _, leaf := range []ere.Re{{}, of("a"), {Kind: first}} {
			judges(t, "39 signs", signs(39, kind, leaf), true, 1)
			judges(t, "40 signs", signs(40, kind, leaf), false, 0)
		}
	}
	judges(t, "a million signs", signs(1<<20, opt, of("a")), false, 0)
	judges(t, "signs of all kinds", signs(13, star, signs(13, plus, signs(13, opt, of("a")))), true, 1)
	judges(t, "one more of them", signs(13, star, signs(14, plus, signs(13, opt, of("a")))), false, 0)
}

// 9.1: a first kid is one deeper than its parent.
func TestRightOfDepthByFirstKids(t *testing.T) {
	for kind := cat; kind <= alt; kind++ {
		r := of("a")
		for range 39 {
			r = tree(kind, r, of("b"))
		}
		judges(t, "39 first kids", r, true, 40)
		judges(t, "40 first kids", tree(kind, r, of("b")), false, 0)
		judges(t, "a sign above 39 first kids", tree(star, r), false, 0)
		judges(t, "39 first kids, with one that is second", tree(kind, of("b"), r), true, 41)
		judges(t, "38 first kids with a sign below", tree(kind, signs(38, plus, of("a")), of("b")), true, 2)
		judges(t, "39 signs below a first kid", tree(kind, signs(39, plus, of("a")), of("b")), false, 0)
	}
}

// 9.1: a second kid is just as deep as its parent, and so is one of that; what stands below it is deeper by itself.
func TestRightOfDepthBySecondKids(t *testing.T) {
	for kind := cat; kind <= alt; kind++ {
		judges(t, "399 second kids", row(kind, many(400, of("a"))...), true, 400)
		judges(t, "39 signs below the last of them", row(kind, append(many(399, of("a")), signs(39, star, of("b")))...), true, 400)
		judges(t, "40 signs below the last of them", row(kind, append(many(399, of("a")), signs(40, star, of("b")))...), false, 0)
		judges(t, "38 signs below the last first one", row(kind, append(many(398, of("a")), signs(38, star, of("b")), of("a"))...), true, 400)
		judges(t, "39 signs below the last first one", row(kind, append(many(398, of("a")), signs(39, star, of("b")), of("a"))...), false, 0)
		judges(t, "39 signs above a row whose first kids are leaves", signs(38, opt, row(kind, many(400, of("a"))...)), true, 400)
		judges(t, "one more", signs(39, opt, row(kind, many(400, of("a"))...)), false, 0)
		other := cat + alt - kind
		judges(t, "a row of the other kind that is second", tree(kind, signs(38, star, of("a")), row(other, of("b"), signs(38, plus, of("c")), of("d"))), true, 4)
		judges(t, "the same that is first", tree(kind, row(other, of("b"), signs(38, plus, of("c")), of("d")), of("a")), false, 0)
	}
}

// 9.1: a sign that is a second kid stands as deep as the parent, its kid one deeper.
func TestRightOfDepthMixed(t *testing.T) {
	r, more := of("z"), of("z")
	for range 39 {
		r = tree(cat, of("a"), tree(star, r))
	}
	for range 40 {
		more = tree(alt, of("a"), tree(plus, more))
	}
	judges(t, "39 signs that are second kids", r, true, 40)
	judges(t, "40 of them", more, false, 0)
	judges(t, "39 and a sign at the top", tree(opt, r), false, 0)
	judges(t, "39 that are second", tree(alt, of("a"), r), true, 41)
	judges(t, "39 that are first", tree(alt, r, of("a")), false, 0)
}

// 9.1: leaves of each kind, just as many as may be and one more, however they are joined.
func TestRightOfLeaves(t *testing.T) {
	for _, leaf := range []ere.Re{{}, of("a"), {Kind: set}, {Kind: first}, {Kind: last}} {
		for kind := cat; kind <= alt; kind++ {
			for _, n := range []int{2, 399, 400} {
				judges(t, strconv.Itoa(n)+" of "+told(leaf), row(kind, many(n, leaf)...), true, n)
				judges(t, strconv.Itoa(n)+" of "+told(leaf)+" in halves", halves(kind, n, leaf), true, n)
			}
			for _, n := range []int{401, 402, 800, 5000} {
				judges(t, strconv.Itoa(n)+" of "+told(leaf), row(kind, many(n, leaf)...), false, 0)
				judges(t, strconv.Itoa(n)+" of "+told(leaf)+" in halves", halves(kind, n, leaf), false, 0)
			}
		}
	}
	a := of("a")
	judges(t, "400 first, one second", tree(cat, row(alt, many(400, a)...), a), false, 0)
	judges(t, "one first, 400 second", tree(cat, a, row(alt, many(400, a)...)), false, 0)
	judges(t, "399 first, one second", tree(cat, row(alt, many(399, a)...), a), true, 400)
	judges(t, "200 twice, with signs", tree(alt, tree(star, row(cat, many(200, a)...)), tree(plus, row(cat, many(200, tree(opt, a))...))), true, 400)
	judges(t, "200 and 201, with signs", tree(alt, tree(star, row(cat, many(200, a)...)), tree(plus, row(cat, many(201, tree(opt, a))...))), false, 0)
}

// halves joins n leaves as flat as may be.
func halves(kind, n int, leaf ere.Re) ere.Re {
	if n == 1 {
		return leaf
	}
	return tree(kind, halves(kind, n/2, leaf), halves(kind, n-n/2, leaf))
}

// R1: a tree that has itself among its kids is not right, and is told so.
func TestRightOfTreesInThemselves(t *testing.T) {
	for kind := star; kind <= opt; kind++ {
		kids := make([]ere.Re, 1)
		kids[0] = tree(kind, kids...)
		judges(t, "its own kid", kids[0], false, 0)
	}
	for kind := cat; kind <= alt; kind++ {
		for _, at := range [][]int{{0}, {1}, {0, 1}} {
			kids := []ere.Re{of("a"), of("b")}
			for _, k := range at {
				kids[k] = ere.Re{Kind: kind, Kids: kids}
			}
			judges(t, "its own kids", ere.Re{Kind: kind, Kids: kids}, false, 0)
		}
		kids := []ere.Re{of("a"), of("b")}
		kids[1] = tree(star, ere.Re{Kind: kind, Kids: kids})
		judges(t, "its own below a second one", ere.Re{Kind: kind, Kids: kids}, false, 0)
	}
}

// R4: trees that share their kids are as those that don't.
func TestRightOfSharedKids(t *testing.T) {
	r, more := of("a"), of("a")
	for n := 1; n <= 256; n *= 2 {
		judges(t, "doubled", r, true, n)
		r = tree(cat, r, r)
	}
	judges(t, "512 of one", r, false, 0)
	for range 2000 {
		more = tree(alt, more, more)
	}
	judges(t, "2 to the 2000th of one", more, false, 0)
}

// 9.1: picked trees, most of them near the bounds, and with something wrong in some of them.
func TestRightOfPickedTrees(t *testing.T) {
	pick := rand.New(rand.NewSource(91))
	counts := map[bool]int{}
	for range 3000 {
		r := picked(pick, pick.Intn(700)+1)
		if pick.Intn(3) == 0 {
			spoil(pick, &r)
		}
		right := plainRight(r)
		counts[right]++
		n := 0
		if right {
			n = leavesOf(r)
		}
		if ere.Right(r) != right || ere.Sets(r) != n {
			t.Fatalf("9.1: %s: %v, %d, want %v, %d", told(r), ere.Right(r), ere.Sets(r), right, n)
		}
	}
	if counts[true] < 500 || counts[false] < 500 {
		t.Errorf("trees were right or not: %v", counts)
	}
}

// picked tells a tree of n leaves, which goes deep now and then.
func picked(pick *rand.Rand, n int) ere.Re {
	if n == 1 {
		if pick.Intn(6) == 0 {
			return tree(star+pick.Intn(3), picked(pick, 1))
		}
		switch pick.Intn(6) {
		case 0:
			return tree(empty)
		case 1:
			return tree(first)
		case 2:
			return tree(last)
		}
		return ere.Re{Kind: set, Set: class.Set{pick.Uint64() & pick.Uint64(), pick.Uint64() >> pick.Intn(80), pick.Uint64() >> pick.Intn(80)}}
	}
	k := 1 + pick.Intn(n-1)
	switch pick.Intn(12) {
	case 0:
		return tree(star+pick.Intn(3), picked(pick, n))
	case 1:
		k = n - 1
	case 2, 3, 4, 5, 6:
		k = 1
	}
	return tree(cat+pick.Intn(2), picked(pick, k), picked(pick, n-k))
}

// spoil makes one part of a tree wrong.
func spoil(pick *rand.Rand, r *ere.Re) {
	for len(r.Kids) > 0 && pick.Intn(8) > 0 {
		r = &r.Kids[pick.Intn(len(r.Kids))]
	}
	switch pick.Intn(4) {
	case 0:
		r.Kind = pick.Intn(12) - 1
	case 1:
		r.Set[pick.Intn(4)] |= 1 << pick.Intn(64)
	case 2:
		r.Kids = append(r.Kids, of("q"))
	case 3:
		r.Kids = nil
	}
}
