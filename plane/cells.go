package plane

import "penumbra/api"

// A transform is one of wave's.
type transform func(x []complex128) ([]complex128, api.Errno)

// isRight looks at the side first: the square of any int need not be an int.
func isRight(f api.Grid) bool {
	if f.N < 1 || f.N > api.MaxSide || f.N&(f.N-1) != 0 {
		return false
	}
	return len(f.Cells) == f.N*f.N
}

// remainder answers that of a by n, from 0 to n - 1, where Go's is below 0 for an a below 0.
func remainder(a, n int) int { return (a%n + n) % n }

// taken answers the field in memory of its own, which may be changed.
func taken(f api.Grid) api.Grid {
	cells := make([]complex128, len(f.Cells))
	copy(cells, f.Cells)
	return api.Grid{N: f.N, Cells: cells}
}

// byRowsThenColumns answers the field's transform.
func byRowsThenColumns(f api.Grid, do transform) (api.Grid, api.Errno) {
	if !isRight(f) {
		return api.Grid{}, api.ErrLen
	}
	g := taken(f)
	changeRows(g, do)
	exchange(g)
	changeRows(g, do) // the columns, which stand as rows
	exchange(g)
	return g, api.OK
}

// changeRows lays each row's transform in its place.
func changeRows(g api.Grid, do transform) {
	for y := range g.N {
		row := g.Cells[y*g.N : (y+1)*g.N]
		out, _ := do(row) // every side is a length that wave takes
		copy(row, out)
	}
}

// exchange lays rows in the places of columns, in the field's own memory.
func exchange(g api.Grid) {
	for y := range g.N {
		for x := range y {
			here, there := y*g.N+x, x*g.N+y
			g.Cells[here], g.Cells[there] = g.Cells[there], g.Cells[here]
		}
	}
}
