package cx

import "math"

const signBit = 1 << 63

// eachPart hands each part to do, and joins what it answers.
func eachPart(a complex128, do func(x float64) float64) complex128 {
	return complex(do(real(a)), do(imag(a)))
}

// eachPair hands the first parts to do, then the second ones, and joins what it answers.
func eachPair(a, b complex128, do func(x, y float64) float64) complex128 {
	return complex(do(real(a), real(b)), do(imag(a), imag(b)))
}

// bitsOf tells the bits as an array, since == on it tells noughts apart by their signs and finds a NaN the same as itself.
func bitsOf(a complex128) [2]uint64 {
	return [2]uint64{math.Float64bits(real(a)), math.Float64bits(imag(a))}
}

// oneNaN makes every NaN the same one.
func oneNaN(x float64) float64 {
	if math.IsNaN(x) {
		return math.NaN()
	}
	return x
}

func hasNaN(a complex128) bool { return math.IsNaN(real(a)) || math.IsNaN(imag(a)) }

// turned goes by the bit, so that the sign of a nought or a NaN turns for certain too.
func turned(x float64) float64 {
	return math.Float64frombits(math.Float64bits(x) ^ signBit)
}

// product is converted, so that it is rounded ahead of the sum that takes it in.
func product(x, y float64) float64 { return float64(x * y) }

// wholePart compares as whole numbers, since most need not be a float64.
func wholePart(x float64, most int) bool {
	if x == 0 && math.Signbit(x) {
		return false
	}
	size := math.Abs(x)
	if !(size < 1<<63) || math.Trunc(size) != size { // a NaN goes out here, and what is above every int
		return false
	}
	return int64(size) <= int64(most)
}
