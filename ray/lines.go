package ray

import (
	"iter"

	"penumbra/api"
	"penumbra/dir"
)

// lines goes through the cells of a grid, row by row: each cell's place in the list, with the number of its line. It takes a side and a direction that were looked at.
func lines(n int, d api.Dir) iter.Seq2[int, int] {
	return func(yield func(cell, bin int) bool) {
		// Only the first cell's line is asked for: a step to the right leads Q lines on, one down leads P lines back.
		first, _ := dir.Index(n, d, 0, 0)
		for cell := range n * n {
			x, y := cell%n, cell/n
			if !yield(cell, first+d.Q*x-d.P*y) {
				return
			}
		}
	}
}

// along adds up whole numbers far below 2^53 from +0 on, so every sum is exact and no nought gets a sign.
func along(g api.Grid, d api.Dir) api.Proj {
	many, _ := dir.Bins(g.N, d)
	bins := make([]complex128, many)
	for cell, bin := range lines(g.N, d) {
		bins[bin] += g.Cells[cell]
	}
	return api.Proj{Dir: d, Bins: bins}
}
