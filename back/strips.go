package back

import (
	"penumbra/api"
	"penumbra/cx"
	"penumbra/dir"
)

func isSide(n int) bool { return n >= 1 && n <= api.MaxSide }

func isCell(n int, c api.Cell) bool { return c.X >= 0 && c.X < n && c.Y >= 0 && c.Y < n }

// look has the errors that all calls begin with, in their order.
func look(n int, projs []api.Proj) api.Errno {
	if !isSide(n) {
		return api.ErrArg
	}
	if len(projs) > api.MaxDirs {
		return api.ErrLong
	}
	for _, p := range projs {
		bins, err := dir.Bins(n, p.Dir)
		if err != api.OK {
			return err
		}
		if len(p.Bins) != bins {
			return api.ErrBins
		}
	}
	return api.OK
}

// A strip is a projection with the number of the first cell's line, so that this is asked for once and not for every cell.
type strip struct {
	api.Proj
	first int
}

// strips takes what was looked at.
func strips(n int, projs []api.Proj) []strip {
	out := make([]strip, len(projs))
	for i, p := range projs {
		first, _ := dir.Index(n, p.Dir, 0, 0)
		out[i] = strip{p, first}
	}
	return out
}

// at answers the bin on whose line the cell lies: a step to the right leads Q lines on, one down leads P lines back.
func (s strip) at(c api.Cell) complex128 { return s.Bins[s.first+s.Dir.Q*c.X-s.Dir.P*c.Y] }

// sum is the only place where bins are added, so that all calls add them in one order.
func sum(all []strip, c api.Cell) complex128 {
	var v complex128
	for _, s := range all {
		v = cx.Add(v, s.at(c))
	}
	return v
}

func laid(all []strip, t tile) []complex128 {
	out := make([]complex128, 0, t.count())
	for c := range t.cells() {
		out = append(out, sum(all, c))
	}
	return out
}
