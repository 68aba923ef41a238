package dir

import "penumbra/api"

func isSide(n int) bool { return n >= 1 && n <= api.MaxSide }

func liesIn(n, place int) bool { return place >= 0 && place < n }

// look has the errors that all calls about the lines of a grid begin with, in their order.
func look(n int, d api.Dir) api.Errno {
	if !isSide(n) {
		return api.ErrArg
	}
	return Check(d)
}

// size is no int, since that of the least int is none.
func size(a int) uint {
	if a < 0 {
		return -uint(a)
	}
	return uint(a)
}

// divisor answers the greatest common one of two numbers that aren't both 0.
func divisor(a, b uint) uint {
	for b != 0 {
		a, b = b, a%b
	}
	return a
}

// bins takes a side and a direction that were looked at, and so do those below.
func bins(n int, d api.Dir) int { return (n-1)*(max(d.P, -d.P)+d.Q) + 1 }

// origin answers the number of the line through the cell (0, 0): what must be added so that no line's number is below 0.
func origin(n int, d api.Dir) int { return max(d.P, 0) * (n - 1) }

func row(n, y int) []api.Cell {
	out := make([]api.Cell, n)
	for x := range out {
		out[x] = api.Cell{X: x, Y: y}
	}
	return out
}

// slope answers the cells with Q*x - P*y = level, for a Q above 0: no row has more than one of them.
func slope(n int, d api.Dir, level int) []api.Cell {
	var out []api.Cell
	for y := range n {
		steps := level + d.P*y
		if x := steps / d.Q; steps%d.Q == 0 && liesIn(n, x) {
			out = append(out, api.Cell{X: x, Y: y})
		}
	}
	return out
}
