package peel_test

import (
	"math/bits"
	"slices"

	"penumbra/api"
	"penumbra/sample"
)

// The chapter's rules as they stand, in whole numbers: at each step every bin is looked through.

// A pair is a number in whole parts.
type pair struct{ p, q int64 }

func pairOf(v complex128) pair { return pair{int64(real(v)), int64(imag(v))} }

func (a pair) number() complex128 { return complex(float64(a.p), float64(a.q)) }

func (a pair) minus(b pair) pair { return pair{a.p - b.p, a.q - b.q} }

func (a pair) size() int64 { return max(a.p, -a.p, a.q, -a.q) }

// A spot is a bin of a projection, and a cell on its line.
type spot struct{ proj, bin, cell int }

// linesOf: of each direction, of each bin, the cells on its line.
func linesOf(n int, dirs []api.Dir) [][][]int {
	var out [][][]int
	for _, d := range dirs {
		lines := make([][]int, sample.BinCount(n, d))
		for cell := range n * n {
			at := d.Q*(cell%n) - d.P*(cell/n) + sample.Origin(n, d)
			lines[at] = append(lines[at], cell)
		}
		out = append(out, lines)
	}
	return out
}

// lone: the bins with just one open cell, in their order; not more of them than that.
func lone(lines [][][]int, open []bool, most int) []spot {
	var out []spot
	for proj := range lines {
		for bin, cells := range lines[proj] {
			many, last := 0, 0
			for _, cell := range cells {
				if open[cell] {
					many, last = many+1, cell
				}
			}
			if many == 1 {
				out = append(out, spot{proj, bin, last})
			}
			if len(out) == most {
				return out
			}
		}
	}
	return out
}

// A choice says which of the bins with one open cell is taken, of no more of them than so many.
type choice struct {
	most int
	pick func(all []spot) spot
}

// first is the chapter's.
func first() choice { return choice{1, func(all []spot) spot { return all[0] }} }

// last, and any: other ones.
func last() choice {
	return choice{1 << 20, func(all []spot) spot { return all[len(all)-1] }}
}

func anyOf(d *sample.Dice) choice {
	return choice{1 << 20, func(all []spot) spot { return all[d.Word()%uint64(len(all))] }}
}

// opened: n*n cells, all open.
func opened(n int) []bool { return slices.Repeat([]bool{true}, n*n) }

// solved: what Solve is to answer of sound projections, if the chosen bin is taken at each step.
func solved(s api.Sino, c choice) (api.Grid, api.Errno) {
	var dirs []api.Dir
	rests := make([][]pair, len(s.Projs))
	for i, p := range s.Projs {
		dirs = append(dirs, p.Dir)
		for _, v := range p.Bins {
			rests[i] = append(rests[i], pairOf(v))
		}
	}
	lines, open, out := linesOf(s.N, dirs), opened(s.N), api.Grid{N: s.N, Cells: make([]complex128, s.N*s.N)}
	for all := lone(lines, open, c.most); len(all) > 0; all = lone(lines, open, c.most) {
		at := c.pick(all)
		value := rests[at.proj][at.bin]
		if value.size() > 1<<20 {
			return api.Grid{}, api.ErrBig
		}
		open[at.cell], out.Cells[at.cell] = false, value.number()
		for i, d := range dirs {
			rest := &rests[i][d.Q*(at.cell%s.N)-d.P*(at.cell/s.N)+sample.Origin(s.N, d)]
			*rest = rest.minus(value)
		}
	}
	if slices.Contains(open, true) {
		return api.Grid{}, api.ErrFew
	}
	for _, list := range rests {
		if slices.ContainsFunc(list, func(rest pair) bool { return rest != pair{} }) {
			return api.Grid{}, api.ErrClash
		}
	}
	return out, api.OK
}

// stays: which cells stay open, if the chosen bin is taken at each step.
func stays(n int, dirs []api.Dir, c choice) []bool {
	lines, open := linesOf(n, dirs), opened(n)
	for all := lone(lines, open, c.most); len(all) > 0; all = lone(lines, open, c.most) {
		open[c.pick(all).cell] = false
	}
	return open
}

// masks: each line as a set of cells, a bit for each; of sides up to 4.
func masks(n int, dirs []api.Dir) []uint {
	var out []uint
	for _, lines := range linesOf(n, dirs) {
		for _, cells := range lines {
			var mask uint
			for _, cell := range cells {
				mask |= 1 << cell
			}
			out = append(out, mask)
		}
	}
	return out
}

// fast: the cells of all sets of which no line has just one cell. No peeling takes a cell out of such a set, and what it leaves is one.
func fast(n int, dirs []api.Dir) uint {
	lines := masks(n, dirs)
	var out uint
	for set := range uint(1) << (n * n) {
		if !slices.ContainsFunc(lines, func(mask uint) bool { return bits.OnesCount(mask&set) == 1 }) {
			out |= set
		}
	}
	return out
}

// ends: what every order of peeling comes to, each set once.
func ends(n int, dirs []api.Dir) []uint {
	lines := masks(n, dirs)
	all := uint(1)<<(n*n) - 1
	seen, work := map[uint]bool{all: true}, []uint{all}
	var out []uint
	for len(work) > 0 {
		set := work[0]
		work = work[1:]
		stuck := true
		for _, mask := range lines {
			if bits.OnesCount(mask&set) != 1 {
				continue
			}
			stuck = false
			if less := set &^ mask; !seen[less] {
				seen[less] = true
				work = append(work, less)
			}
		}
		if stuck {
			out = append(out, set)
		}
	}
	return out
}

// asSet: a list of cells as a set.
func asSet(open []bool) uint {
	var out uint
	for cell, still := range open {
		if still {
			out |= 1 << cell
		}
	}
	return out
}
