package torus

import (
	"penumbra/api"
	"penumbra/cx"
	"penumbra/grid"
	"penumbra/plane"
)

// remainder answers that of a by n, from 0 to n - 1, where Go's is below 0 for an a below 0.
func remainder(a, n int) int { return (a%n + n) % n }

// frequencies answers the other side of the slice theorem: what of the grid's transform lies on the line along a, b. That the grid is sound is asked first: plane would tell ErrLen of many that aren't.
func frequencies(g api.Grid, a, b int) ([]complex128, api.Errno) {
	if err := grid.Check(g); err != api.OK {
		return nil, err
	}
	field, err := plane.Forward(g)
	if err != api.OK {
		return nil, err
	}
	return plane.Line(field, a, b)
}

// farthest answers the greatest way between two numbers at one place; the lists are of one length and finite.
func farthest(one, other []complex128) float64 {
	var most float64
	for k := range one {
		most = max(most, cx.Far(one[k], other[k]))
	}
	return most
}
