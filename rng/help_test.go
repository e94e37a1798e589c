package rng_test

import (
	"math"
	"math/big"
	"math/rand"
	"testing"

	"tailrace/rng"
)

const (
	greatest = math.MaxFloat64
	smallest = math.SmallestNonzeroFloat64
	last     = math.MaxUint64 // the greatest state
)

// The document's numbers.
const (
	step   = 11400714819323198485
	first  = 13787848793156543929
	second = 10723151780598845931
)

var (
	inf   = math.Inf(1)
	nan   = math.NaN()
	minus = math.Copysign(0, -1) // -0
)

// whole makes a whole number of any size.
func whole(n uint64) *big.Int { return new(big.Int).SetUint64(n) }

// power is 2 to the power of n.
func power(n uint) *big.Int { return new(big.Int).Lsh(big.NewInt(1), n) }

// mixed is z XOR z / 2^n.
func mixed(z *big.Int, n uint) *big.Int {
	return new(big.Int).Xor(z, new(big.Int).Quo(z, power(n)))
}

// times is z times n modulo 2^64, and whether the product goes round.
func times(z *big.Int, n uint64) (*big.Int, bool) {
	p := new(big.Int).Mul(z, whole(n))
	return new(big.Int).Mod(p, power(64)), p.Cmp(power(64)) >= 0
}

// reckoned is one step of a row, as the document's words tell it.
type reckoned struct {
	state         uint64
	bits          uint64  // z, in the end
	number        float64 // z / 2^11 by 2^53
	sum, one, two bool    // whether the sum, the first product and the second one go round
}

// plainly reckons a step in whole numbers of any size and in quotients of them.
func plainly(s uint64) reckoned {
	var p reckoned
	sum := new(big.Int).Add(whole(s), whole(step))
	p.sum = sum.Cmp(power(64)) >= 0
	z := new(big.Int).Mod(sum, power(64))
	p.state = z.Uint64()
	z, p.one = times(mixed(z, 30), first)
	z, p.two = times(mixed(z, 27), second)
	z = mixed(z, 31)
	p.bits = z.Uint64()
	p.number, _ = new(big.Rat).SetFrac(new(big.Int).Quo(z, power(11)), power(53)).Float64()
	return p
}

// steps wants Next to answer as the document's words do; many states are asked, so the first that does not ends the test.
func steps(t *testing.T, s uint64) {
	t.Helper()
	state, x := rng.Next(s)
	if p := plainly(s); state != p.state || x != p.number || math.Signbit(x) {
		t.Fatalf("14.1: Next(%d): %d and %v, want %d and %v", s, state, x, p.state, p.number)
	}
}

// fits wants a number that is at least 0, below 1, and whole after 2^53 times.
func fits(t *testing.T, s uint64, x float64) {
	t.Helper()
	if !(x >= 0 && x < 1) || math.Signbit(x) || x*(1<<53) != math.Trunc(x*(1<<53)) {
		t.Errorf("14.1: Next(%d) tells %v", s, x)
	}
}

// row tells the states and the numbers of n steps from a state.
func row(s uint64, n int) ([]uint64, []float64) {
	var states []uint64
	var numbers []float64
	for range n {
		var x float64
		s, x = rng.Next(s)
		states, numbers = append(states, s), append(numbers, x)
	}
	return states, numbers
}

// unmixed is the x of which z is x XOR x / 2^n.
func unmixed(z uint64, n uint) uint64 {
	x := z
	for range 64/n + 1 {
		x = z ^ x>>n
	}
	return x
}

// untimes is the x of which z is x times an odd number, modulo 2^64.
func untimes(z, odd uint64) uint64 {
	x := new(big.Int).Mul(whole(z), new(big.Int).ModInverse(whole(odd), power(64)))
	return x.Mod(x, power(64)).Uint64()
}

// byFirst is the state of whose step the first product is f times the first factor.
func byFirst(f uint64) uint64 { return unmixed(f, 30) - step }

// bySecond is the state of whose step the second product is f times the second factor.
func bySecond(f uint64) uint64 { return byFirst(untimes(unmixed(f, 27), first)) }

// byBits is the state of whose step z is this in the end.
func byBits(z uint64) uint64 { return bySecond(untimes(unmixed(z, 31), second)) }

// ends are numbers of 64 bits near to where something begins or ends.
func ends() []uint64 {
	l := []uint64{0, 1, 2, 3, step, first, second, last - step, last - step + 1, last - step + 2, last - 1, last}
	for n := range 64 {
		p := uint64(1) << n
		l = append(l, p, p-1, p+1, last-p, last-p+1, -p-1, 3*p)
	}
	return l
}

// picked are numbers of 64 bits, the same at each call.
func picked(seed int64, n int) []uint64 {
	r := rand.New(rand.NewSource(seed))
	var l []uint64
	for range n {
		l = append(l, r.Uint64(), r.Uint64()>>r.Intn(64), r.Uint64()<<r.Intn(64))
	}
	return l
}
