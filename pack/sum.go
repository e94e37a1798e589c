package pack

import (
	"bytes"
	"math"

	"tailrace/api"
)

// A sum is a complex number of whole parts, each from 0 to prime - 1.
const (
	prime    = 16777199 // leaves 3 by 4, so that the complex numbers modulo it are a field
	step     = 257 + 3i
	partSize = 3 // bytes of a part: prime is below 1 << 24
	sumSize  = 2 * partSize
)

func Sum(b []byte) complex128 {
	s := complex128(1)
	for _, x := range b {
		s = s*step + complex(float64(x)+1, 0)
		s = complex(within(real(s)), within(imag(s)))
	}
	return s
}

func Seal(b []byte) []byte {
	s := Sum(b)
	sealed := make([]byte, 0, len(b)+sumSize)
	sealed = append(sealed, b...)
	sealed = layPart(sealed, real(s))
	return layPart(sealed, imag(s))
}

func Unseal(b []byte) ([]byte, api.Errno) {
	if len(b) < sumSize {
		return nil, api.ErrShort
	}
	inner, end := b[:len(b)-sumSize], b[len(b)-sumSize:]
	if Sum(inner) != complex(readPart(end), readPart(end[partSize:])) {
		return nil, api.ErrSum
	}
	return bytes.Clone(inner), api.OK
}

// within brings a whole x into 0 to prime - 1. It takes the floor, as math.Mod would answer -0 of a negative multiple.
func within(x float64) float64 {
	return x - prime*math.Floor(x/prime)
}

func layPart(b []byte, part float64) []byte {
	n := uint32(part)
	return append(b, byte(n), byte(n>>8), byte(n>>16))
}

func readPart(b []byte) float64 {
	return float64(uint32(b[0]) | uint32(b[1])<<8 | uint32(b[2])<<16)
}
