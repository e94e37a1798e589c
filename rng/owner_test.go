package rng_test

import (
	"math"
	"slices"
	"sync"
	"testing"

	"tailrace/rng"
)

// R4: a row is the same again, whatever was asked between.
func TestTheSameRowAgain(t *testing.T) {
	const n = 5000
	for _, from := range []uint64{0, 1, 5, step, last, rng.Seed(0.1)} {
		states, numbers := row(from, n)
		again, too := row(from, n)
		if !slices.Equal(states, again) || !slices.Equal(numbers, too) {
			t.Errorf("R4: the row from %d is not the same again", from)
		}
	}
}

// R4: two rows in turn are as each is alone; they may be one row, too.
func TestRowsInTurn(t *testing.T) {
	const n = 5000
	for _, c := range [][2]uint64{{0, 1}, {5, 5}, {0, step}, {last, rng.Seed(1)}, {1 << 63, 1<<63 - 1}} {
		var states [2][]uint64
		var numbers [2][]float64
		s := c
		for i := range n {
			for k := range s {
				var x float64
				s[k], x = rng.Next(s[k])
				states[k], numbers[k] = append(states[k], s[k]), append(numbers[k], x)
				rng.Seed(float64(i) * x)
			}
		}
		for k, from := range c {
			alone, too := row(from, n)
			if !slices.Equal(states[k], alone) || !slices.Equal(numbers[k], too) {
				t.Errorf("R4: the row from %d is another beside that from %d", from, c[1-k])
			}
		}
	}
}

// R4: rows at the same time.
func TestRowsAtTheSameTime(t *testing.T) {
	const n = 5000
	var group sync.WaitGroup
	for k := range 8 {
		from := rng.Seed(float64(k % 4))
		states, numbers := row(from, n)
		group.Go(func() {
			again, too := row(from, n)
			if !slices.Equal(states, again) || !slices.Equal(numbers, too) {
				t.Errorf("R4: the row from %d is not the same again", from)
			}
		})
	}
	group.Wait()
}

// W4: what a program seeds by a number it was given is one row for all that are that number.
func TestOneNumberOneRow(t *testing.T) {
	same := func(x, y float64) bool {
		_, a := row(rng.Seed(x), 8)
		_, b := row(rng.Seed(y), 8)
		return slices.Equal(a, b)
	}
	zeros := []float64{0, minus, nan, math.Copysign(nan, -1), math.Float64frombits(1<<64 - 1), math.Float64frombits(0x7ff0000000000001)}
	others := []float64{1, -1, 2, 0.5, smallest, -smallest, greatest, inf, -inf, 1 << 40, 0.1, 0.2}
	for _, x := range zeros {
		for _, y := range zeros {
			if !same(x, y) {
				t.Errorf("14.1: rows of %v and %v", x, y)
			}
		}
	}
	for i, x := range append(others, 0) {
		for k, y := range others {
			if same(x, y) != (i == k) {
				t.Errorf("14.1: rows of %v and %v", x, y)
			}
		}
	}
}
