package ray_test

import (
	"maps"
	"slices"

	"penumbra/api"
	"penumbra/sample"
)

// The chapter's rules as they stand. The sums of lines are made in whole numbers, and their numbers come from the cells alone: the least one is bin 0, the greatest the last.

// A pair is a number in whole parts.
type pair struct{ p, q int64 }

func pairOf(v complex128) pair { return pair{int64(real(v)), int64(imag(v))} }

func (a pair) number() complex128 { return complex(float64(a.p), float64(a.q)) }

func (a pair) plus(b pair) pair { return pair{a.p + b.p, a.q + b.q} }

func (a pair) times(b pair) pair { return pair{a.p*b.p - a.q*b.q, a.p*b.q + a.q*b.p} }

func total(list []complex128) pair {
	var sum pair
	for _, v := range list {
		sum = sum.plus(pairOf(v))
	}
	return sum
}

// step: how far the cell's line lies from that of the first cell.
func step(n, cell int, d api.Dir) int { return d.Q*(cell%n) - d.P*(cell/n) }

// ends: the first and the last line that there is.
func ends(n int, d api.Dir) (first, last int) {
	for cell := range n * n {
		first, last = min(first, step(n, cell, d)), max(last, step(n, cell, d))
	}
	return first, last
}

func bins(n int, d api.Dir) int {
	first, last := ends(n, d)
	return last - first + 1
}

// projected: 0 where no cell lies.
func projected(g api.Grid, d api.Dir) api.Proj {
	sums := map[int]pair{}
	for cell, v := range g.Cells {
		line := step(g.N, cell, d)
		sums[line] = sums[line].plus(pairOf(v))
	}
	lines := slices.Sorted(maps.Keys(sums))
	first, last := lines[0], lines[len(lines)-1]
	out := api.Proj{Dir: d}
	for line := first; line <= last; line++ {
		out.Bins = append(out.Bins, sums[line].number())
	}
	return out
}

// spread: the bin of each cell's line.
func spread(n int, p api.Proj) api.Grid {
	first, _ := ends(n, p.Dir)
	out := sample.Filled(n, 0)
	for cell := range out.Cells {
		out.Cells[cell] = p.Bins[step(n, cell, p.Dir)-first]
	}
	return out
}

// dotted: a = p + qi times the conjugate of b = u + vi, each operation rounded by itself; Go's own negation turns the sign of a nought too.
func dotted(a, b []complex128) complex128 {
	var re, im float64
	for i := range a {
		p, q, u, v := real(a[i]), imag(a[i]), real(b[i]), -imag(b[i])
		pu, qv, pv, qu := float64(p*u), float64(q*v), float64(p*v), float64(q*u)
		re += float64(pu - qv)
		im += float64(pv + qu)
	}
	return complex(re, im)
}
