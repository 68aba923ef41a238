package torus_test

import (
	"math/big"

	"penumbra/api"
	"penumbra/cx"
	"penumbra/plane"
	"penumbra/wave"
)

// The chapter's rules as they stand; what is counted, in whole numbers of any length.

// A pair is a number in whole parts.
type pair struct{ p, q big.Int }

func (sum *pair) add(v complex128) {
	sum.p.Add(&sum.p, big.NewInt(int64(real(v))))
	sum.q.Add(&sum.q, big.NewInt(int64(imag(v))))
}

// number: no sum of these is too great for a float64, and a nought is +0.
func (sum *pair) number() complex128 {
	return complex(float64(sum.p.Int64()), float64(sum.q.Int64()))
}

// reached: the remainder of a*x + b*y by n.
func reached(n int, s slope, x, y int) int {
	first := new(big.Int).Mul(big.NewInt(int64(s.a)), big.NewInt(int64(x)))
	second := new(big.Int).Mul(big.NewInt(int64(s.b)), big.NewInt(int64(y)))
	sum := first.Add(first, second)
	return int(sum.Mod(sum, big.NewInt(int64(n))).Int64())
}

// projected: each cell is counted where it belongs.
func projected(g api.Grid, s slope) []complex128 {
	sums := make([]pair, g.N)
	for y := range g.N {
		for x := range g.N {
			sums[reached(g.N, s, x, y)].add(g.Cells[y*g.N+x])
		}
	}
	out := make([]complex128, g.N)
	for bin := range sums {
		out[bin] = sums[bin].number()
	}
	return out
}

// line: of a grid whose side the transform takes.
func line(g api.Grid, s slope) []complex128 {
	field, _ := plane.Forward(g)
	out, _ := plane.Line(field, s.a, s.b)
	return out
}

func sliced(g api.Grid, s slope) []complex128 {
	out, _ := wave.Back(line(g, s))
	return wave.Whole(out)
}

func proved(g api.Grid, s slope) float64 {
	one, _ := wave.Forward(projected(g, s))
	other := line(g, s)
	most := cx.Far(one[0], other[0])
	for k := range one {
		if far := cx.Far(one[k], other[k]); far > most {
			most = far
		}
	}
	return most
}

// total: of all numbers of a list.
func total(list []complex128) complex128 {
	var sum pair
	for _, v := range list {
		sum.add(v)
	}
	return sum.number()
}

// movedRound: each bin so far on.
func movedRound(bins []complex128, far int) []complex128 {
	out := make([]complex128, len(bins))
	for bin, v := range bins {
		out[(bin+far)%len(bins)] = v
	}
	return out
}
