package wave

import (
	"penumbra/api"
	"penumbra/cx"
	"penumbra/root"
)

// weightsOf answers W(n, k) for all k from 0 to n - 1.
func weightsOf(n int) ([]complex128, api.Errno) {
	weights, err := root.Table(n)
	for k, a := range weights {
		weights[k] = cx.Plain(cx.Conj(a))
	}
	return weights, err
}

// byHalves answers the transform of x with the weights of its length.
func byHalves(x, weights []complex128) []complex128 {
	out := make([]complex128, len(x))
	layHalves(out, x, weights, 1)
	return out
}

// layHalves lays into out the transform of those len(out) numbers of x that stand a stride apart, from the first one on. The even ones among them, and the odd ones, stand two strides apart, so that no list has to be taken apart.
func layHalves(out, x, weights []complex128, stride int) {
	if len(out) == 1 {
		out[0] = x[0]
		return
	}
	half := len(out) / 2
	layHalves(out[:half], x, weights, 2*stride)
	layHalves(out[half:], x[stride:], weights, 2*stride)
	for k := range half {
		places := [2]complex128{out[k], out[k+half]}
		// The weights are those of the whole length, which is stride times this one: the root at k is the same as theirs at k*stride.
		places = butterfly(places, weights[k*stride])
		out[k], out[k+half] = places[0], places[1]
	}
}

// butterfly answers what comes of the numbers at its two places, the even half's first.
func butterfly(places [2]complex128, weight complex128) [2]complex128 {
	t := cx.Mul(weight, places[1])
	return [2]complex128{cx.Add(places[0], t), cx.Sub(places[0], t)}
}

// sumAt answers the transform's number at place k by its definition.
func sumAt(k int, x, weights []complex128) complex128 {
	var sum complex128
	for j, a := range x {
		sum = cx.Add(sum, cx.Mul(a, weights[j*k%len(x)]))
	}
	return sum
}
