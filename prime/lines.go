package prime

import (
	"slices"

	"penumbra/api"
	"penumbra/cx"
)

// onLine answers the cell number k of the line m, t: the one with that x, but of the last list, whose lines go straight down, the one with that y.
func onLine(p, m, t, k int) api.Cell {
	if m == p {
		return api.Cell{X: t, Y: k}
	}
	return api.Cell{X: k, Y: (m*k + t) % p}
}

// sums answers the transform's list number m.
func sums(g api.Grid, m int) []complex128 {
	p := g.N
	list := make([]complex128, p)
	for t := range p {
		for k := range p {
			c := onLine(p, m, t, k)
			list[t] += g.Cells[c.Y*p+c.X] // exact, and never -0: each sum begins at +0
		}
	}
	return list
}

// areBins: are all lists as long as they must be, of bins' values?
func areBins(l [][]complex128) bool {
	p := len(l) - 1
	for _, list := range l {
		if len(list) != p {
			return false
		}
		if slices.ContainsFunc(list, func(v complex128) bool { return !cx.Whole(v, api.MaxBin) }) {
			return false
		}
	}
	return true
}

// areSame: the same numbers in all lists, of which both have as many?
func areSame(one, other [][]complex128) bool {
	for m := range one {
		if !slices.Equal(one[m], other[m]) {
			return false
		}
	}
	return true
}

// laidBack goes the way back, whatever the lists have to do with each other.
func laidBack(l [][]complex128) api.Grid {
	p := len(l) - 1
	var all complex128
	for t := range p {
		all += l[0][t]
	}
	out := api.Grid{N: p, Cells: make([]complex128, p*p)}
	for y := range p {
		for x := range p {
			out.Cells[y*p+x] = divided(through(l, x, y)-all, p)
		}
	}
	return out
}

// through answers the sum of the lines on which the cell lies.
func through(l [][]complex128, x, y int) complex128 {
	p := len(l) - 1
	sum := l[p][x]
	for m := range p {
		sum += l[m][(y+(p-m)*x)%p] // p - m stands for -m, so that Go's remainder is not below 0
	}
	return sum
}

// divided answers each part over p. Parts of less than 2^40 have a whole quotient just where there is no rest: a rest is far greater than what is rounded.
func divided(v complex128, p int) complex128 {
	return complex(real(v)/float64(p), imag(v)/float64(p))
}
