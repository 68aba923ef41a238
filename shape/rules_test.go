package shape_test

import (
	"math/big"
	"slices"

	"penumbra/api"
)

// isShape: the chapter's words, kind by kind.
func isShape(s api.Shape) bool {
	from := func(low, a, high int) bool { return low <= a && a <= high }
	if !from(-1024, s.X, 1024) || !from(-1024, s.Y, 1024) {
		return false
	}
	switch s.Kind {
	case 1, 3:
		return from(1, s.A, 1024) && from(1, s.B, 1024)
	case 2:
		return from(0, s.A, 1048576) && s.B == 0
	}
	return false
}

func whole(a int) *big.Int { return big.NewInt(int64(a)) }

func sum(a, b *big.Int) *big.Int { return new(big.Int).Add(a, b) }

func minus(a, b *big.Int) *big.Int { return new(big.Int).Sub(a, b) }

func times(a, b *big.Int) *big.Int { return new(big.Int).Mul(a, b) }

// lies: does the cell lie in the shape, in whole numbers of any length?
func lies(s api.Shape, x, y int) bool {
	if !isShape(s) {
		return false
	}
	right, down, a, b := minus(whole(x), whole(s.X)), minus(whole(y), whole(s.Y)), whole(s.A), whole(s.B)
	switch s.Kind {
	case 1:
		return right.Sign() >= 0 && right.Cmp(a) < 0 && down.Sign() >= 0 && down.Cmp(b) < 0
	case 2:
		return sum(times(right, right), times(down, down)).Cmp(a) <= 0
	}
	return right.Sign() >= 0 && down.Sign() >= 0 && sum(times(right, b), times(down, a)).Cmp(times(a, b)) < 0
}

// A mask has the cells of a grid of side n that lie in a shape, found one by one.
type mask struct {
	n     int
	cells []api.Cell
}

func masked(s api.Shape, n int) mask {
	out := mask{n: n}
	for y := range n {
		for x := range n {
			if lies(s, x, y) {
				out.cells = append(out.cells, api.Cell{X: x, Y: y})
			}
		}
	}
	return out
}

// row: from the first x on to the one behind the last, and how many they are.
func (m mask) row(y int) (from, to, many int) {
	for _, c := range m.cells {
		if c.Y == y {
			if many == 0 {
				from = c.X
			}
			to = c.X + 1
			many++
		}
	}
	return from, to, many
}

// hits: how many cells of the shape each line has; the lines are numbered by the grid's cells themselves, the least number being 0.
func (m mask) hits(d api.Dir) []int {
	var numbers []int
	for y := range m.n {
		for x := range m.n {
			numbers = append(numbers, d.Q*x-d.P*y)
		}
	}
	least := slices.Min(numbers)
	out := make([]int, slices.Max(numbers)-least+1)
	for _, c := range m.cells {
		out[d.Q*c.X-d.P*c.Y-least]++
	}
	return out
}
