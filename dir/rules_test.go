package dir_test

import (
	"cmp"
	"math"
	"math/big"
	"slices"

	"penumbra/api"
	"penumbra/sample"
)

// angle: of a direction, from 0 on, below half a turn. Those of any two forms are 1/512 apart or more, so that floats tell them.
func angle(d api.Dir) float64 { return math.Atan2(float64(d.Q), float64(d.P)) }

// forms: all directions of at most k steps, by their angles.
func forms(k int) []api.Dir {
	var out []api.Dir
	for p := -k; p <= k; p++ {
		for q := 0; q <= k; q++ {
			if d := (api.Dir{P: p, Q: q}); sample.IsDir(d) {
				out = append(out, d)
			}
		}
	}
	slices.SortFunc(out, func(a, b api.Dir) int { return cmp.Compare(angle(a), angle(b)) })
	return out
}

// onOneLine: through the origin, in whole numbers of any length.
func onOneLine(p, q int, d api.Dir) bool {
	left := new(big.Int).Mul(big.NewInt(int64(p)), big.NewInt(int64(d.Q)))
	right := new(big.Int).Mul(big.NewInt(int64(q)), big.NewInt(int64(d.P)))
	return left.Cmp(right) == 0
}

// normal: the one among all directions that lies on the line.
func normal(p, q int, all []api.Dir) (api.Dir, api.Errno) {
	if p == 0 && q == 0 {
		return api.Dir{}, api.ErrArg
	}
	for _, d := range all {
		if onOneLine(p, q, d) {
			return d, api.OK
		}
	}
	return api.Dir{}, api.ErrDir
}

// A lined grid: each cell's line, and how many there are, by the cells themselves: the least number is 0, the greatest the last.
type lined struct {
	n, bins int
	numbers []int
}

func (l lined) at(x, y int) int { return l.numbers[y*l.n+x] }

func lines(n int, d api.Dir) lined {
	out := lined{n: n}
	for y := range n {
		for x := range n {
			out.numbers = append(out.numbers, d.Q*x-d.P*y)
		}
	}
	least, greatest := slices.Min(out.numbers), slices.Max(out.numbers)
	for j := range out.numbers {
		out.numbers[j] -= least
	}
	out.bins = greatest - least + 1
	return out
}

// cells: those of each line, by rising y, then x.
func (l lined) cells() [][]api.Cell {
	out := make([][]api.Cell, l.bins)
	for y := range l.n {
		for x := range l.n {
			bin := l.at(x, y)
			out[bin] = append(out[bin], api.Cell{X: x, Y: y})
		}
	}
	return out
}

// differ: by a multiple of the direction (0 too)?
func differ(a, b api.Cell, d api.Dir) bool {
	for t := -64; t <= 64; t++ {
		if a.X+t*d.P == b.X && a.Y+t*d.Q == b.Y {
			return true
		}
	}
	return false
}
