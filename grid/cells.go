package grid

import (
	"penumbra/api"
	"penumbra/cx"
)

func isSide(n int) bool { return n >= 1 && n <= api.MaxSide }

func isValue(v complex128) bool { return cx.Whole(v, api.MaxPart) }

// isSound looks at the side first: the square of any int need not be an int.
func isSound(g api.Grid) bool {
	if !isSide(g.N) || len(g.Cells) != g.N*g.N {
		return false
	}
	for _, v := range g.Cells {
		if !isValue(v) {
			return false
		}
	}
	return true
}

func areSound(grids []api.Grid) bool {
	for _, g := range grids {
		if !isSound(g) {
			return false
		}
	}
	return true
}

func blank(n int) api.Grid { return api.Grid{N: n, Cells: make([]complex128, n*n)} }

func liesIn(n int, c api.Cell) bool {
	return c.X >= 0 && c.X < n && c.Y >= 0 && c.Y < n
}

// cell takes a place that lies in the grid.
func cell(g api.Grid, c api.Cell) complex128 { return g.Cells[c.Y*g.N+c.X] }

// cellOr0 takes any place.
func cellOr0(g api.Grid, c api.Cell) complex128 {
	if !liesIn(g.N, c) {
		return 0
	}
	return cell(g, c)
}

// remainder answers that of a by n, from 0 to n - 1, where Go's is below 0 for an a below 0.
func remainder(a, n int) int { return (a%n + n) % n }

// notBeyond: a way as long as the greatest side already leads out of every grid, so longer ones may count as it, and what is reckoned with them remains an int.
func notBeyond(d int) int { return min(max(d, -api.MaxSide), api.MaxSide) }

// cellByCell answers the grid whose cells do tells, of the side of the grids that it is made of. It looks at those grids, then at whether the other arguments are right, then at each cell that comes out, since errors come in this order; do is asked only behind both first looks.
func cellByCell(right bool, do func(c api.Cell) complex128, grids ...api.Grid) (api.Grid, api.Errno) {
	if !areSound(grids) {
		return api.Grid{}, api.ErrGrid
	}
	if !right {
		return api.Grid{}, api.ErrArg
	}
	out := blank(grids[0].N)
	for j := range out.Cells {
		v := cx.Plain(do(api.Cell{X: j % out.N, Y: j / out.N}))
		if !isValue(v) { // it is whole, so a part is beyond MaxPart
			return api.Grid{}, api.ErrBig
		}
		out.Cells[j] = v
	}
	return out, api.OK
}
