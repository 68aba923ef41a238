package back_test

import (
	"penumbra/api"
	"penumbra/filter"
)

// The chapter's rules as they stand.

// cut: of a field the cells between two, both ends in, row by row.
func cut(f api.Grid, from, to api.Cell) []complex128 {
	var out []complex128
	for place, v := range f.Cells {
		x, y := place%f.N, place/f.N
		if x >= from.X && x <= to.X && y >= from.Y && y <= to.Y {
			out = append(out, v)
		}
	}
	return out
}

// sharpened: the projections whose bins are filter.Apply of the bins.
func sharpened(projs []api.Proj, kind int) []api.Proj {
	var out []api.Proj
	for _, p := range projs {
		bins, _ := filter.Apply(p.Bins, kind)
		out = append(out, api.Proj{Dir: p.Dir, Bins: bins})
	}
	return out
}
