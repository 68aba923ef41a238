package grid_test

import (
	"math/big"

	"penumbra/api"
	"penumbra/sample"
)

// The chapter's rules as they stand, in whole numbers: each cell of the argument is sent where it goes, rather than fetched.

// A pair is a number in whole parts.
type pair struct{ p, q int64 }

func pairOf(v complex128) pair { return pair{int64(real(v)), int64(imag(v))} }

func (a pair) number() complex128 { return complex(float64(a.p), float64(a.q)) }

func (a pair) plus(b pair) pair  { return pair{a.p + b.p, a.q + b.q} }
func (a pair) less(b pair) pair  { return pair{a.p - b.p, a.q - b.q} }
func (a pair) times(b pair) pair { return pair{a.p*b.p - a.q*b.q, a.p*b.q + a.q*b.p} }

// fits: is neither part beyond the limit?
func (a pair) fits() bool {
	const most = 1 << 20
	return -most <= a.p && a.p <= most && -most <= a.q && a.q <= most
}

// merged: both grids cell by cell, and whether all cells fit.
func merged(a, b api.Grid, do func(a, b pair) pair) (api.Grid, bool) {
	out := sample.Filled(a.N, 0)
	fits := true
	for j := range out.Cells {
		v := do(pairOf(a.Cells[j]), pairOf(b.Cells[j]))
		fits = fits && v.fits()
		out.Cells[j] = v.number()
	}
	return out, fits
}

func total(g api.Grid) pair {
	var sum pair
	for _, v := range g.Cells {
		sum = sum.plus(pairOf(v))
	}
	return sum
}

// sent: each cell where to tells; gone where it tells no.
func sent(g api.Grid, to func(x, y int) (int, int, bool)) api.Grid {
	out := sample.Filled(g.N, 0)
	for y := range g.N {
		for x := range g.N {
			if toX, toY, ok := to(x, y); ok {
				out.Cells[toY*g.N+toX] = g.Cells[y*g.N+x]
			}
		}
	}
	return out
}

// far: the sum in whole numbers without bounds.
func far(x, d int) *big.Int { return new(big.Int).Add(big.NewInt(int64(x)), big.NewInt(int64(d))) }

// inside: the sum, and whether it is a place of a side.
func inside(n, x, d int) (int, bool) {
	sum := far(x, d)
	ok := sum.Sign() >= 0 && sum.Cmp(big.NewInt(int64(n))) < 0
	return int(sum.Int64()), ok
}

// round: the sum's remainder by n.
func round(n, x, d int) int {
	sum := far(x, d)
	return int(sum.Mod(sum, big.NewInt(int64(n))).Int64())
}

func shifted(g api.Grid, dx, dy int) api.Grid {
	return sent(g, func(x, y int) (int, int, bool) {
		toX, okX := inside(g.N, x, dx)
		toY, okY := inside(g.N, y, dy)
		return toX, toY, okX && okY
	})
}

func rolled(g api.Grid, dx, dy int) api.Grid {
	return sent(g, func(x, y int) (int, int, bool) { return round(g.N, x, dx), round(g.N, y, dy), true })
}

func mirrored(g api.Grid) api.Grid {
	return sent(g, func(x, y int) (int, int, bool) { return g.N - 1 - x, y, true })
}

// turned: the upper side comes to lie on the right with each quarter.
func turned(g api.Grid, k int) api.Grid {
	for range round(4, k, 0) {
		g = sent(g, func(x, y int) (int, int, bool) { return g.N - 1 - y, x, true })
	}
	return g
}
