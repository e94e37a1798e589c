package mark_test

import (
	"math/rand"
	"slices"
	"testing"

	"tailrace/mark"
)

// 4.1, and the chapter's examples.
func TestLess(t *testing.T) {
	for _, c := range []struct {
		x, y complex128
		want bool
	}{
		{2 + 9i, 3, true},
		{3, 3, false},
		{3, 2 + 9i, false},
		{0, 1i, true},
		{1i, 0, false},
		{1i, 1, true},
		{1, 1i, false},
		{3 + 7i, 3 + 8i, true},
		{3 + 8i, 3 + 7i, false},
		{3 + 7i, 3 + 7i, false},
		{2 + 7i, 3 + 7i, true},
		{3 + 7i, 2 + 7i, false},
		{2 + 8i, 3 + 7i, true},
		{3 + 7i, 2 + 8i, false},
		{most - 1 + most*1i, most, true},
		{most + (most-1)*1i, most + most*1i, true},
		{most + most*1i, most + most*1i, false},
	} {
		if mark.Less(c.x, c.y) != c.want {
			t.Errorf("Less(%v, %v): %v", c.x, c.y, !c.want)
		}
	}
}

// 4.1: what is no mark is neither less nor are marks less than it, nor another one of its kind.
func TestLessOfOthers(t *testing.T) {
	for _, z := range others() {
		for _, x := range rights() {
			if mark.Less(z, x) || mark.Less(x, z) {
				t.Errorf("%v and %v", z, x)
			}
		}
	}
	for _, x := range wrongs() {
		for _, y := range wrongs() {
			for _, z := range []complex128{complex(x, 1), complex(1, x)} {
				if mark.Less(z, complex(y, 2)) || mark.Less(z, complex(2, y)) {
					t.Errorf("%v and one with %v", z, y)
				}
			}
		}
	}
}

// 4.3: of any two that are not the same one is Less, and not both; of the same ones none.
func TestOneOfTwoIsLess(t *testing.T) {
	l := rights()
	for i, x := range l {
		for k, y := range l {
			if mark.Less(x, y) != (i < k) {
				t.Errorf("Less(%v, %v): %v", x, y, i >= k)
			}
		}
	}
}

// 4.3: picked marks, held against the order of pairs of whole numbers.
func TestOrderIsThatOfPairs(t *testing.T) {
	pick := rand.New(rand.NewSource(1))
	pairs := make([][2]uint64, 3000)
	for i := range pairs {
		// Few real parts, so that many are the same.
		pairs[i] = [2]uint64{most - uint64(pick.Intn(9)), uint64(pick.Int63n(most+1)) >> pick.Intn(41)}
	}
	slices.SortFunc(pairs, func(x, y [2]uint64) int { return slices.Compare(x[:], y[:]) })
	for i := 1; i < len(pairs); i++ {
		x, _ := mark.Of(pairs[i-1][0], pairs[i-1][1])
		y, _ := mark.Of(pairs[i][0], pairs[i][1])
		if mark.Less(y, x) || mark.Less(x, y) != (pairs[i-1] != pairs[i]) {
			t.Errorf("%v and %v", x, y)
		}
	}
}

// 4.1: a mark is less than its Next one, and none is between.
func TestNextIsTheLeastAbove(t *testing.T) {
	l := rights()
	for _, z := range l {
		next := mark.Next(z)
		if imag(z) == most {
			continue
		}
		if !mark.Less(z, next) || mark.Less(next, z) {
			t.Errorf("%v and its Next %v", z, next)
		}
		for _, x := range l {
			if mark.Less(z, x) && mark.Less(x, next) {
				t.Errorf("%v is between %v and %v", x, z, next)
			}
		}
	}
}
