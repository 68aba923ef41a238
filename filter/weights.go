package filter

import (
	"penumbra/api"
	"penumbra/wave"
)

// weightBy answers how a kind weighs the frequency number k, of as many as there are roots, and whether there is such a kind.
func weightBy(kind int, roots []complex128) (weight func(k int) float64, found bool) {
	n := len(roots)
	flat := func(int) float64 { return 1 }
	ramp := func(k int) float64 { return float64(min(k, n-k)) / float64(n) }
	soft := func(k int) float64 { return ramp(k) * (0.5 * (1 + real(roots[k]))) }
	switch kind {
	case api.Flat:
		return flat, true
	case api.Ramp:
		return ramp, true
	case api.Soft:
		return soft, true
	}
	return nil, false
}

// filtered answers as many numbers as there are weights, a length that the transform has: x, followed by noughts, with each of its frequencies weighed.
func filtered(x []complex128, weights []float64) ([]complex128, api.Errno) {
	room := make([]complex128, len(weights))
	copy(room, x)
	waves, err := wave.Forward(room)
	if err != api.OK {
		return nil, err
	}
	for k, a := range waves {
		waves[k] = weighed(a, weights[k])
	}
	return wave.Back(waves)
}

// weighed goes part by part: in a product of two complex numbers an infinity would meet the second part's 0, and be a NaN.
func weighed(a complex128, weight float64) complex128 {
	return complex(float64(real(a)*weight), float64(imag(a)*weight))
}
