package back_test

import (
	"penumbra/api"
	"penumbra/filter"
	"penumbra/sample"
)

// The chapter's rules as they stand.

// line: the number of the line on which a cell lies.
func line(n int, d api.Dir, x, y int) int {
	m := 0
	if d.P > 0 {
		m = d.P * (n - 1)
	}
	return d.Q*x - d.P*y + m
}

// laid: each cell from both parts +0 on, projection by projection, each part of a bin added by itself.
func laid(n int, projs []api.Proj) api.Grid {
	out := sample.Filled(n, 0)
	for y := range n {
		for x := range n {
			var re, im float64
			for _, p := range projs {
				bin := p.Bins[line(n, p.Dir, x, y)]
				re += real(bin)
				im += imag(bin)
			}
			out.Cells[y*n+x] = complex(re, im)
		}
	}
	return out
}

// cut: of a field the cells between two, both ends in, row by row.
func cut(f api.Grid, from, to api.Cell) []complex128 {
	var out []complex128
	for place, v := range f.Cells {
		x, y := place%f.N, place/f.N
		if x >= from.X && x <= to.X && y >= from.Y && y <= to.Y {
			out = append(out, v)
		}
	}
	return out
}

// sharpened: the projections whose bins are filter.Apply of the bins.
func sharpened(projs []api.Proj, kind int) []api.Proj {
	var out []api.Proj
	for _, p := range projs {
		bins, _ := filter.Apply(p.Bins, kind)
		out = append(out, api.Proj{Dir: p.Dir, Bins: bins})
	}
	return out
}

// fault: the first error that all calls have in common.
func fault(n int, projs []api.Proj) api.Errno {
	if n < 1 || n > 64 {
		return api.ErrArg
	}
	if len(projs) > 64 {
		return api.ErrLong
	}
	for _, p := range projs {
		if !isDir(p.Dir) {
			return api.ErrDir
		}
		if len(p.Bins) != sample.BinCount(n, p.Dir) {
			return api.ErrBins
		}
	}
	return api.OK
}

// isDir: is it one of all that there are?
func isDir(d api.Dir) bool {
	if d.P < -16 || d.P > 16 || d.Q < 0 || d.Q > 16 {
		return false
	}
	if d.Q == 0 {
		return d.P == 1
	}
	for common := 2; common <= 16; common++ {
		if d.P%common == 0 && d.Q%common == 0 {
			return false
		}
	}
	return true
}
