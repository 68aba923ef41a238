package prime_test

import "penumbra/api"

// The chapter's words as they stand, in whole numbers; every cell is asked of every line whether it lies there.

// A pair is a number in whole parts.
type pair struct{ p, q int64 }

func pairOf(v complex128) pair { return pair{int64(real(v)), int64(imag(v))} }

func (a pair) number() complex128 { return complex(float64(a.p), float64(a.q)) }

func (a pair) plus(b pair) pair { return pair{a.p + b.p, a.q + b.q} }

func (a pair) minus(b pair) pair { return pair{a.p - b.p, a.q - b.q} }

// over: each part divided, and is there no rest?
func (a pair) over(p int64) (pair, bool) {
	return pair{a.p / p, a.q / p}, a.p%p == 0 && a.q%p == 0
}

func (a pair) size() int64 { return max(a.p, -a.p, a.q, -a.q) }

// liesOn: is it a cell of the line m, t?
func liesOn(p, m, t, x, y int) bool {
	if m == p {
		return x == t
	}
	return (m*x+t)%p == y
}

// cellsOf: those of a line, by rising x, then y.
func cellsOf(p, m, t int) []api.Cell {
	var out []api.Cell
	for x := range p {
		for y := range p {
			if liesOn(p, m, t, x, y) {
				out = append(out, api.Cell{X: x, Y: y})
			}
		}
	}
	return out
}

// transform: of cells of any whole numbers, also such as no sound grid has.
func transform(g api.Grid) [][]complex128 {
	out := make([][]complex128, g.N+1)
	for m := range out {
		for t := range g.N {
			var sum pair
			for y := range g.N {
				for x := range g.N {
					if liesOn(g.N, m, t, x, y) {
						sum = sum.plus(pairOf(g.Cells[y*g.N+x]))
					}
				}
			}
			out[m] = append(out[m], sum.number())
		}
	}
	return out
}

// total: what a list adds up to.
func total(list []complex128) pair {
	var sum pair
	for _, v := range list {
		sum = sum.plus(pairOf(v))
	}
	return sum
}

// alike: do all lists add up to the same number?
func alike(l [][]complex128) bool {
	for _, list := range l {
		if total(list) != total(l[0]) {
			return false
		}
	}
	return true
}

// wayBack: the cells that come out of the way back, with their parts cut to whole numbers, and how often there was a rest.
func wayBack(l [][]complex128) (api.Grid, int) {
	p := len(l) - 1
	out, rests := api.Grid{N: p}, 0
	for y := range p {
		for x := range p {
			sum := pairOf(l[p][x])
			for m := range p {
				place := ((y-m*x)%p + p) % p
				sum = sum.plus(pairOf(l[m][place]))
			}
			cell, even := sum.minus(total(l[0])).over(int64(p))
			out.Cells = append(out.Cells, cell.number())
			if !even {
				rests++
			}
		}
	}
	return out, rests
}

// tooGreat: has it a cell whose part is beyond MaxPart?
func tooGreat(g api.Grid) bool {
	for _, v := range g.Cells {
		if pairOf(v).size() > api.MaxPart {
			return true
		}
	}
	return false
}

// solved: what Back is to answer of lists of bins' values.
func solved(l [][]complex128) (api.Grid, api.Errno) {
	g, rests := wayBack(l)
	if rests > 0 || tooGreat(g) || !sameLists(transform(g), l) {
		return api.Grid{}, api.ErrClash
	}
	return g, api.OK
}
