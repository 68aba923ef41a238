// Package cx is layer 1: complex numbers by their parts. See shared/doc/01-cx.md.
package cx

import (
	"math"

	"penumbra/api"
)

// A power of two this far either way already makes a nought or an infinity of every finite part but a nought, so farther ones may count as it.
const mostPower = 2200

// Same: the same bits, all NaNs one.
func Same(a, b complex128) bool {
	return bitsOf(eachPart(a, oneNaN)) == bitsOf(eachPart(b, oneNaN))
}

// Plain: noughts without a sign.
func Plain(a complex128) complex128 {
	return eachPart(a, func(x float64) float64 {
		if x == 0 {
			return 0
		}
		return x
	})
}

// Add: the sum.
func Add(a, b complex128) complex128 {
	return eachPair(a, b, func(x, y float64) float64 { return x + y })
}

// Sub: the difference.
func Sub(a, b complex128) complex128 {
	return eachPair(a, b, func(x, y float64) float64 { return x - y })
}

// Mul: the product.
func Mul(a, b complex128) complex128 {
	p, q := real(a), imag(a)
	u, v := real(b), imag(b)
	return complex(product(p, u)-product(q, v), product(p, v)+product(q, u))
}

// Conj: the conjugate.
func Conj(a complex128) complex128 { return complex(real(a), turned(imag(a))) }

// Turn: times a power of i.
func Turn(a complex128, k int) complex128 {
	p, q := real(a), imag(a)
	switch k & 3 { // the remainder from 0 to 3, of a negative k too
	case 1:
		return complex(turned(q), p)
	case 2:
		return eachPart(a, turned)
	case 3:
		return complex(q, turned(p))
	}
	return a
}

// Scale: times a power of two.
func Scale(a complex128, k int) complex128 {
	k = min(max(k, -mostPower), mostPower)
	return eachPart(a, func(x float64) float64 {
		// The conversion closes the product inside, lest a caller's sum be made in one step with it.
		return float64(math.Ldexp(x, k))
	})
}

// Size: the greater part.
func Size(a complex128) float64 {
	if hasNaN(a) {
		return math.NaN()
	}
	return max(math.Abs(real(a)), math.Abs(imag(a)))
}

// Far: the size of the difference.
func Far(a, b complex128) float64 { return Size(Sub(a, b)) }

// Whole: whole parts, not above most?
func Whole(a complex128, most int) bool {
	return wholePart(real(a), most) && wholePart(imag(a), most)
}

// Narrow: as a complex64; does nothing get lost?
func Narrow(a complex128) (complex64, bool) {
	narrow := complex64(a)
	kept := bitsOf(complex128(narrow)) == bitsOf(a)
	return narrow, kept && !hasNaN(a)
}

// Text: the bits as a text.
func Text(a complex128) string { return textOf(bitsOf(a)) }

// Read: back.
func Read(s string) (complex128, api.Errno) {
	bits, ok := readBits(s)
	if !ok {
		return 0, api.ErrText
	}
	return complex(math.Float64frombits(bits[0]), math.Float64frombits(bits[1])), api.OK
}
