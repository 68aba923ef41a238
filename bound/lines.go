package bound

import (
	"penumbra/api"
	"penumbra/dir"
)

// A line is where the levels of its cells stand in a list of bounds, and what they add up to.
type line struct {
	places []int
	bin    int
}

// linesOf takes what was looked at. The lines stand in the order in which a sweep comes to them, so that they are asked for once and not in every sweep.
func linesOf(n int, projs []api.Proj) []line {
	var out []line
	for _, p := range projs {
		for bin, v := range p.Bins {
			cells, _ := dir.Line(n, p.Dir, bin)
			places := make([]int, len(cells))
			for i, c := range cells {
				places[i] = c.Y*n + c.X
			}
			out = append(out, line{places, int(real(v))})
		}
	}
	return out
}

// settle sweeps, in the lists' own memory, till nothing changes.
func settle(lines []line, lo, hi []int) api.Errno {
	for at := range lo {
		if lo[at] > hi[at] {
			return api.ErrClash
		}
	}
	for range api.MaxSweeps {
		changed, err := sweep(lines, lo, hi)
		if err != api.OK || !changed {
			return err
		}
	}
	return api.ErrFew
}

// sweep: did it change something?
func sweep(lines []line, lo, hi []int) (bool, api.Errno) {
	changed := false
	for _, l := range lines {
		drawn, err := l.draw(lo, hi)
		if err != api.OK {
			return false, err
		}
		changed = changed || drawn
	}
	return changed, api.OK
}

// draw: did it change something? The sums of all cells go along with what changes, so that those of the others are just one cell less, at this moment.
func (l line) draw(lo, hi []int) (bool, api.Errno) {
	if len(l.places) == 0 && l.bin != 0 {
		return false, api.ErrClash
	}
	changed := false
	least, most := l.sum(lo), l.sum(hi)
	for _, at := range l.places {
		least, most = least-lo[at], most-hi[at]
		low, high := max(lo[at], l.bin-most), min(hi[at], l.bin-least)
		if low > high {
			return false, api.ErrClash
		}
		changed = changed || low != lo[at] || high != hi[at]
		lo[at], hi[at] = low, high
		least, most = least+low, most+high
	}
	return changed, api.OK
}

// sum: of the line's cells in one of the lists.
func (l line) sum(levels []int) int {
	var out int
	for _, at := range l.places {
		out += levels[at]
	}
	return out
}
