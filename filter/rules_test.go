package filter_test

import (
	"math/big"

	"penumbra/api"
	"penumbra/root"
	"penumbra/wave"
)

// The chapter's rules as they stand, the weights worked out exactly and rounded step by step.

// length: the least one that is at least twice as much, out of all that there are.
func length(bins int) (int, bool) {
	for _, n := range lengths() {
		if bins >= 1 && bins <= api.MaxLen/2 && n >= 2*bins {
			return n, true
		}
	}
	return 0, false
}

// rounded: a float64's digits, each operation to the nearest, of two the even one. No weight is near to where normal numbers end.
func rounded(x float64) *big.Float { return new(big.Float).SetPrec(53).SetFloat64(x) }

// weight: that of number k, by the kind.
func weight(n, kind, k int) float64 {
	ramp := rounded(0).Quo(rounded(float64(min(k, n-k))), rounded(float64(n)))
	out := rounded(1)
	switch kind {
	case api.Ramp:
		out = ramp
	case api.Soft:
		a, _ := root.Root(n, k)
		sum := rounded(0).Add(rounded(1), rounded(real(a)))
		half := rounded(0).Mul(rounded(0.5), sum)
		out = rounded(0).Mul(ramp, half)
	}
	x, _ := out.Float64()
	return x
}

// weighing: all of them, for as many bins.
func weighing(bins, kind int) []float64 {
	n, _ := length(bins)
	out := make([]float64, n)
	for k := range out {
		out[k] = weight(n, kind, k)
	}
	return out
}

// apply: the steps of the chapter, one behind the other.
func apply(x []complex128, weights []float64) []complex128 {
	var all []complex128
	all = append(all, x...)
	for len(all) < len(weights) {
		all = append(all, complex(0, 0))
	}
	y, _ := wave.Forward(all)
	for k, w := range weights {
		y[k] = complex(real(y[k])*w, imag(y[k])*w)
	}
	z, _ := wave.Back(y)
	return z[:len(x)]
}
