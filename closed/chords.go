package closed

import (
	"penumbra/api"
	"penumbra/dir"
	"penumbra/phantom"
	"penumbra/shape"
)

// look has the errors that Project and Chord begin with, in their order, and answers how many bins there are.
func look(p api.Phantom, d api.Dir) (int, api.Errno) {
	if err := phantom.Check(p); err != api.OK {
		return 0, err
	}
	return dir.Bins(p.N, d)
}

// along takes a phantom and a direction that were looked at, and so do those below.
func along(p api.Phantom, d api.Dir) api.Proj {
	many, _ := dir.Bins(p.N, d)
	bins := make([]complex128, many)
	for bin := range many {
		bins[bin] = chord(p, d, bin)
	}
	return api.Proj{Dir: d, Bins: bins}
}

// chord adds up whole numbers far below 2^53 from +0 on, so every sum is exact, and the sign that a nought of times may have is lost.
func chord(p api.Phantom, d api.Dir, bin int) complex128 {
	var sum complex128
	for _, s := range p.Shapes {
		hits, _ := shape.Hits(s, p.N, d, bin)
		sum += times(s.Worth, hits)
	}
	return sum
}

// times goes part by part, since a product of complex numbers has sums in it too.
func times(v complex128, many int) complex128 {
	by := float64(many)
	return complex(float64(real(v)*by), float64(imag(v)*by))
}
