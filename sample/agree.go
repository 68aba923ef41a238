package sample

import (
	"math"
	"slices"

	"penumbra/api"
)

// Agree: the same bits in each part, where a NaN came out any NaN.
func Agree(a, b complex128) bool {
	return AgreePart(real(a), real(b)) && AgreePart(imag(a), imag(b))
}

// AgreePart: likewise of one part.
func AgreePart(x, y float64) bool {
	return math.Float64bits(x) == math.Float64bits(y) || x != x && y != y
}

// Bits: of every part, to hold lists against each other with their NaNs.
func Bits(x []complex128) []uint64 {
	var out []uint64
	for _, a := range x {
		out = append(out, math.Float64bits(real(a)), math.Float64bits(imag(a)))
	}
	return out
}

// SameField: the same side and the same bits everywhere, those of NaNs too.
func SameField(f, g api.Grid) bool {
	return f.N == g.N && slices.Equal(Bits(f.Cells), Bits(g.Cells))
}
