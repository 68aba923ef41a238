package shape

import (
	"math"

	"penumbra/api"
)

// A line has the cells (x + t*p, y + t*q), t being the step's number, any whole one.
type line struct{ x, y, p, q int }

// A span is the steps from the first number on to the second, which isn't one of them; where the second isn't above the first, there are none.
type span struct{ from, to int }

func (s span) size() int { return max(s.to-s.from, 0) }

func (s span) meet(o span) span {
	return span{max(s.from, o.from), min(s.to, o.to)}
}

// notBelow0 answers the steps t with slope*t + level >= 0. A span of it with no end comes to one when it meets that of a grid.
func notBelow0(slope, level int) span {
	switch {
	case slope > 0:
		return span{-floor(level, slope), math.MaxInt}
	case slope < 0:
		return span{math.MinInt, floor(level, -slope) + 1}
	case level >= 0:
		return span{math.MinInt, math.MaxInt}
	}
	return span{}
}

// floor divides by a number above 0, downwards where Go's division goes towards 0.
func floor(a, by int) int {
	if a < 0 {
		return -((-a + by - 1) / by)
	}
	return a / by
}

// squareRoot answers the greatest whole number whose square isn't greater, bit by bit in whole numbers, so that nothing is rounded. A disc asks for that of at most (MaxStep² + MaxStep²) * MaxReach², which is 2^29.
func squareRoot(a int) int {
	out := 0
	for bit := 1 << 14; bit > 0; bit /= 2 {
		if more := out + bit; more*more <= a {
			out = more
		}
	}
	return out
}

// lineOf answers the line with Q*x - P*y = level along a direction in its one form. The cell that it begins with may lie outside the grid.
func lineOf(d api.Dir, level int) line {
	if d.Q == 0 { // and P is 1
		return line{0, -level, d.P, d.Q}
	}
	// P and Q have no common divisor, so one of any Q rows that follow one another has a cell of the line.
	y := 0
	for (level+d.P*y)%d.Q != 0 {
		y++
	}
	return line{(level + d.P*y) / d.Q, y, d.P, d.Q}
}

// within answers the steps at which a line's cell lies in the grid and in the form. A grid's cells are those of a rectangle.
func within(f form, n int, l line) span {
	return rect{A: n, B: n}.along(l).meet(f.along(l))
}

// run answers the x of a row's cells: its steps are these, since it begins at 0.
func run(f form, n, y int) span { return within(f, n, line{0, y, 1, 0}) }
