package rng_test

import (
	"math"
	"slices"
	"testing"

	"tailrace/rng"
)

// 14.1: the chapter's example.
func TestNextExample(t *testing.T) {
	if s, _ := rng.Next(0); s != 11400714819323198485 {
		t.Errorf("14.1: Next(0): %d", s)
	}
}

// 14.1: rows whose bits were written down.
func TestNextIsAsWritten(t *testing.T) {
	for from, want := range map[uint64][]uint64{
		0:       {0xe220a8397b1dcdaf, 0x6e789e6aa1b965f4, 0x06c45d188009454f, 0xf88bb8a8724c81ec, 0x1b39896a51a8749b},
		1234567: {6457827717110365317, 3203168211198807973, 9817491932198370423, 4593380528125082431, 16408922859458223821},
	} {
		s := from
		for i, z := range want {
			state, x := rng.Next(s)
			if state != s+step || x != float64(z/2048)/9007199254740992 {
				t.Errorf("14.1: step %d from %d: %d and %v", i, from, state, x)
			}
			s = state
		}
	}
}

// 14.1: states near to where something begins or ends, and those ahead of them.
func TestNextOfEnds(t *testing.T) {
	for _, s := range ends() {
		steps(t, s)
		steps(t, s-step)
	}
}

// 14.1: the sum goes round, or just does not.
func TestNextSumGoesRound(t *testing.T) {
	const most = last - step // the greatest state whose sum does not go round
	for s, want := range map[uint64]uint64{most: last, most - 1: last - 1, most + 1: 0, most + 2: 1, last: step - 1, last - 1: step - 2, 1 << 63: step - 1<<63, 1: step + 1} {
		if state, _ := rng.Next(s); state != want || plainly(s).sum != (s > most) {
			t.Errorf("14.1: Next(%d): %d, want %d", s, state, want)
		}
		steps(t, s)
	}
}

// 14.1: each of the products goes round, or does not.
func TestNextProductsGoRound(t *testing.T) {
	for _, f := range append(ends(), picked(2, 200)...) {
		for i, s := range []uint64{byFirst(f), bySecond(f)} {
			steps(t, s)
			p := plainly(s)
			if round := [2]bool{p.one, p.two}[i]; round != (f > 1) {
				t.Fatalf("the product %d of %d goes round: %v", i, f, round)
			}
		}
	}
}

// 14.1: the number is what stands above the last 11 bits, never rounded.
func TestNextNumber(t *testing.T) {
	for z, want := range map[uint64]float64{
		0: 0, 1: 0, 2047: 0, 2048: 0x1p-53, 4095: 0x1p-53, 4096: 0x1p-52,
		1<<63 - 1: 0.5 - 0x1p-53, 1 << 63: 0.5, 1<<63 + 2047: 0.5, 1<<63 + 2048: 0.5 + 0x1p-53, 1 << 62: 0.25, 3 << 62: 0.75,
		last: 1 - 0x1p-53, last - 2047: 1 - 0x1p-53, last - 2048: 1 - 0x1p-52, last - 1023: 1 - 0x1p-53, last - 1024: 1 - 0x1p-53,
	} {
		s := byBits(z)
		if p := plainly(s); p.bits != z {
			t.Fatalf("the bits of %d are %d, not %d", s, p.bits, z)
		}
		if _, x := rng.Next(s); x != want || math.Signbit(x) {
			t.Errorf("14.1: Next(%d): %v, want %v", s, x, want)
		}
	}
	for _, z := range append(ends(), picked(3, 2000)...) {
		s := byBits(z)
		steps(t, s)
		_, x := rng.Next(s)
		fits(t, s, x)
		if uint64(x*(1<<53)) != z>>11 {
			t.Fatalf("14.1: Next(%d): %v of the bits %d", s, x, z)
		}
	}
}

// 14.1: picked states, and what numbers seed.
func TestNextOfPicked(t *testing.T) {
	for _, s := range picked(4, 10000) {
		steps(t, s)
	}
	for _, x := range []float64{0, minus, nan, 1, -1, 0.1, 42, 1e9, smallest, greatest, -greatest, inf, -inf} {
		s := rng.Seed(x)
		for range 50 {
			steps(t, s)
			s, _ = rng.Next(s)
		}
	}
}

// 14.1: many steps from one state: each is as reckoned, and the states do not come again.
func TestManySteps(t *testing.T) {
	const n = 20000
	for _, from := range []uint64{0, 1, 7, step, last, rng.Seed(1), rng.Seed(-inf)} {
		states, numbers := row(from, n)
		before := from
		for i, s := range states {
			if p := plainly(before); s != p.state || numbers[i] != p.number {
				t.Fatalf("14.1: step %d from %d: %d and %v, want %d and %v", i, from, s, numbers[i], p.state, p.number)
			}
			fits(t, before, numbers[i])
			if s != from+uint64(i+1)*step {
				t.Fatalf("14.1: step %d from %d: %d", i, from, s)
			}
			before = s
		}
		slices.Sort(states)
		if len(slices.Compact(states)) != n {
			t.Errorf("14.1: a state of the row from %d came again", from)
		}
	}
}

// 14.1: the numbers of a row lie everywhere.
func TestNumbersLieEverywhere(t *testing.T) {
	const n, parts = 64000, 64
	for _, from := range []uint64{0, 1, last, rng.Seed(1), rng.Seed(2)} {
		var count, low [parts]int
		_, numbers := row(from, n)
		for _, x := range numbers {
			count[int(x*parts)]++
			low[uint64(x*(1<<53))%parts]++
		}
		for i := range parts {
			if count[i] < 800 || count[i] > 1200 || low[i] < 800 || low[i] > 1200 {
				t.Errorf("14.1: from %d part %d has %d and %d of %d", from, i, count[i], low[i], n/parts)
			}
		}
	}
}
