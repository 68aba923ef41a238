package bound_test

import (
	"math"
	"slices"

	"penumbra/api"
	"penumbra/sample"
)

// The chapter's rules as they stand.

// isSum: is that a bin of levels?
func isSum(v complex128) bool {
	x, y := real(v), imag(v)
	whole := x == math.Trunc(x) && x >= 0 && x <= 1<<32
	return whole && !math.Signbit(x) && math.Float64bits(y) == 0
}

// areBounds: are there as many numbers as cells, and is each of them a level?
func areBounds(n int, list []int) bool {
	for _, v := range list {
		if v < 0 || v > 255 {
			return false
		}
	}
	return len(list) == n*n
}

// fault: the error that is told ahead of all sweeps.
func fault(j job) api.Errno {
	if j.n < 1 || j.n > 16 || !areBounds(j.n, j.lo) || !areBounds(j.n, j.hi) {
		return api.ErrArg
	}
	if len(j.projs) > 64 {
		return api.ErrLong
	}
	for _, p := range j.projs {
		if !sample.IsDir(p.Dir) {
			return api.ErrDir
		}
		if len(p.Bins) != sample.BinCount(j.n, p.Dir) {
			return api.ErrBins
		}
		for _, v := range p.Bins {
			if !isSum(v) {
				return api.ErrBins
			}
		}
	}
	for place := range j.lo {
		if j.lo[place] > j.hi[place] {
			return api.ErrClash
		}
	}
	return api.OK
}

// lineCells: the places of the cells on each line, by rising y, then x.
func lineCells(n int, d api.Dir) [][]int {
	out := make([][]int, sample.BinCount(n, d))
	for y := range n {
		for x := range n {
			bin := sample.LineOf(n, d, x, y)
			out[bin] = append(out[bin], y*n+x)
		}
	}
	return out
}

// others: the sum over a line's cells but for one.
func others(list []int, cells []int, but int) int {
	sum := 0
	for _, place := range cells {
		if place != but {
			sum += list[place]
		}
	}
	return sum
}

// sweep: once through all; did something change, and are the bounds contradicted?
func sweep(projs []api.Proj, cells [][][]int, lo, hi []int) (changed, clash bool) {
	for i, p := range projs {
		lines := cells[i]
		for bin, v := range p.Bins {
			b := int(real(v))
			if len(lines[bin]) == 0 && b != 0 {
				return changed, true
			}
			for _, place := range lines[bin] {
				least, most := others(lo, lines[bin], place), others(hi, lines[bin], place)
				if b-most > lo[place] {
					lo[place] = b - most
					changed = true
				}
				if b-least < hi[place] {
					hi[place] = b - least
					changed = true
				}
				if lo[place] > hi[place] {
					return changed, true
				}
			}
		}
	}
	return changed, false
}

// An answer is what Run tells, and how many sweeps it took.
type answer struct {
	lo, hi []int
	e      api.Errno
	sweeps int
}

// told: by the rules, with so many sweeps at the most.
func told(j job, most int) answer {
	if e := fault(j); e != api.OK {
		return answer{e: e}
	}
	lo, hi := slices.Clone(j.lo), slices.Clone(j.hi)
	var cells [][][]int
	for _, p := range j.projs {
		cells = append(cells, lineCells(j.n, p.Dir))
	}
	for count := 1; count <= most; count++ {
		changed, clash := sweep(j.projs, cells, lo, hi)
		if clash {
			return answer{e: api.ErrClash, sweeps: count}
		}
		if !changed {
			return answer{lo, hi, api.OK, count}
		}
	}
	return answer{e: api.ErrFew, sweeps: most}
}
