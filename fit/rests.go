package fit

import (
	"penumbra/api"
	"penumbra/back"
	"penumbra/cx"
	"penumbra/dir"
)

// look has the errors that the calls begin with, in their order.
func look(f api.Grid, projs []api.Proj) api.Errno {
	if f.N < 1 || f.N > api.MaxSide || len(f.Cells) != f.N*f.N {
		return api.ErrArg
	}
	// What can be laid back can be fitted: of projections both layers have the same errors, in the same order, and one cell is enough to be told them.
	_, err := back.Region(f.N, projs, api.Cell{}, api.Cell{})
	return err
}

// rests takes what was looked at.
func rests(f api.Grid, projs []api.Proj) []api.Proj {
	out := make([]api.Proj, len(projs))
	for i, p := range projs {
		bins := sums(f, p.Dir, len(p.Bins))
		for bin, sum := range bins {
			bins[bin] = cx.Sub(p.Bins[bin], sum)
		}
		out[i] = api.Proj{Dir: p.Dir, Bins: bins}
	}
	return out
}

// sums adds each cell to its line's sum in the order of the cells, which is row by row on every line.
func sums(f api.Grid, d api.Dir, bins int) []complex128 {
	out := make([]complex128, bins)
	first, _ := dir.Index(f.N, d, 0, 0)
	for y := range f.N {
		// A step down leads P lines back, one to the right leads Q lines on.
		bin := first - d.P*y
		for _, v := range f.Cells[y*f.N : (y+1)*f.N] {
			out[bin] = cx.Add(out[bin], v)
			bin += d.Q
		}
	}
	return out
}

// advance does a round in the field's own cells. The rests are bins of projections that were looked at, so they can be laid back.
func advance(f api.Grid, left []api.Proj, down int) {
	laid, _ := back.All(f.N, left)
	for place, v := range laid.Cells {
		f.Cells[place] = cx.Add(f.Cells[place], cx.Scale(v, -down))
	}
}
