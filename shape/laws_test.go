package shape_test

import (
	"math"
	"testing"

	"penumbra/api"
	"penumbra/dir"
	"penumbra/sample"
	"penumbra/shape"
)

// together: do the cells that lie in the shape follow one another in this list?
func together(s api.Shape, cells []api.Cell) bool {
	parts, before := 0, false
	for _, c := range cells {
		now := shape.Inside(s, c.X, c.Y)
		if now && !before {
			parts++
		}
		before = now
	}
	return parts <= 1
}

// P7.2: on each row, each column and each line the shape's cells follow one another.
func TestCellsFollowOneAnother(t *testing.T) {
	for _, n := range []int{3, 9, 64} {
		for _, s := range append(anyShapes(n+1, 10), few()...) {
			for a := range n {
				var row, column []api.Cell
				for b := range n {
					row = append(row, api.Cell{X: b, Y: a})
					column = append(column, api.Cell{X: a, Y: b})
				}
				if !together(s, row) || !together(s, column) {
					t.Fatalf("%v, side %d: row or column %d is in parts", s, n, a)
				}
			}
			for _, d := range sample.Dirs() {
				bins, _ := dir.Bins(n, d)
				for bin := 0; bin < bins; bin += 1 + n/16 {
					if cells, _ := dir.Line(n, d, bin); !together(s, cells) {
						t.Fatalf("%v, side %d, %v: line %d is in parts", s, n, d, bin)
					}
				}
			}
		}
	}
}

// P7.2: a row's cells are just those from the first number of Run on to the second.
func TestRunsAreInside(t *testing.T) {
	for _, n := range []int{1, 6, 64} {
		for _, s := range append(anyShapes(n+2, 20), few()...) {
			for y := range n {
				from, to, _ := shape.Run(s, n, y)
				if from < 0 || to > n || from > to || from == to && from != 0 {
					t.Fatalf("%v, side %d, row %d: %d, %d", s, n, y, from, to)
				}
				for x := range n {
					if shape.Inside(s, x, y) != (x >= from && x < to) {
						t.Fatalf("%v, side %d, (%d, %d)", s, n, x, y)
					}
				}
			}
		}
	}
}

// P7.2: Runs add up to Area, and so do Hits over all bins of a direction.
func TestSums(t *testing.T) {
	all, _ := dir.All(16)
	for _, n := range sample.Sides() {
		for i, s := range append(anyShapes(n+3, 6), few()...) {
			area, e := shape.Area(s, n)
			right(t, area, e)
			rows := 0
			for y := range n {
				from, to, _ := shape.Run(s, n, y)
				rows += to - from
			}
			if rows != area {
				t.Fatalf("%v, side %d: %d cells, by rows %d", s, n, area, rows)
			}
			for j := i % 7; j < len(all); j += 7 {
				bins, _ := dir.Bins(n, all[j])
				lines := 0
				for bin := range bins {
					many, _ := shape.Hits(s, n, all[j], bin)
					lines += many
				}
				if lines != area {
					t.Fatalf("%v, side %d, %v: %d cells, by lines %d", s, n, all[j], area, lines)
				}
			}
		}
	}
}

// P7.2: the lines along (1, 0) are the rows from below, those along (0, 1) the columns from the left.
func TestLinesOfRowsAndColumns(t *testing.T) {
	for _, n := range sample.Sides() {
		for _, s := range append(anyShapes(n+4, 6), few()...) {
			for a := range n {
				from, to, _ := shape.Run(s, n, n-1-a)
				if many, e := shape.Hits(s, n, api.Dir{P: 1}, a); right(t, many, e) != to-from {
					t.Fatalf("%v, side %d, row %d: %d", s, n, n-1-a, many)
				}
				column := 0
				for y := range n {
					if shape.Inside(s, a, y) {
						column++
					}
				}
				if many, e := shape.Hits(s, n, api.Dir{Q: 1}, a); right(t, many, e) != column {
					t.Fatalf("%v, side %d, column %d: %d", s, n, a, many)
				}
			}
		}
	}
}

// P7.3: a cell lies in a shape just if the cell that is moved lies in the shape that is moved.
func TestMovedHolds(t *testing.T) {
	for _, s := range append(anyShapes(4, 20), few()...) {
		for _, dx := range []int{0, 1, -3, 1024 - s.X, -1024 - s.X} {
			for _, dy := range []int{0, -1, 5, 1024 - s.Y, -1024 - s.Y} {
				moved, e := shape.Moved(s, dx, dy)
				if max(s.X+dx, -s.X-dx, s.Y+dy, -s.Y-dy) > 1024 {
					refused(t, "Moved beyond the reach", moved, e, api.ErrShape)
					continue
				}
				right(t, moved, e)
				for _, x := range about(s.X, s.A, dx) {
					for _, y := range about(s.Y, max(s.A, s.B), dy) {
						if shape.Inside(moved, x+dx, y+dy) != shape.Inside(s, x, y) {
							t.Fatalf("%v by %d, %d: (%d, %d)", s, dx, dy, x, y)
						}
					}
				}
			}
		}
	}
}

// about: numbers near to the first one and as far from it as the measure, and the ends of int as far as a move leaves them one.
func about(from, long, move int) []int {
	out := []int{from + long - 1, from + long, from - long, from + long/2, math.MinInt + max(-move, 0), math.MaxInt - max(move, 0)}
	for a := from - 4; a < from+9; a++ {
		out = append(out, a)
	}
	return out
}

// P7.3: there and back is none; two moves are the one by both.
func TestMovedTwice(t *testing.T) {
	for _, s := range few() {
		s.Worth = -3 + 2i
		for _, c := range [][4]int{{0, 0, 0, 0}, {-s.X, -s.Y, s.X, s.Y}, {-s.X, -s.Y, 7, -9}, {1024 - s.X, -1024 - s.Y, -2048, 2048}, {-1024 - s.X, 1024 - s.Y, 2048, -2048}} {
			once, e := shape.Moved(s, c[0], c[1])
			twice, f := shape.Moved(right(t, once, e), c[2], c[3])
			both, g := shape.Moved(s, c[0]+c[2], c[1]+c[3])
			if right(t, twice, f) != right(t, both, g) {
				t.Errorf("%v by %v: %v, %v", s, c, twice, both)
			}
			back, e := shape.Moved(once, -c[0], -c[1])
			if right(t, back, e) != s {
				t.Errorf("%v by %v and back: %v", s, c, back)
			}
		}
	}
}

// P1, rule 5: calls at the same time do not show in each other's answers.
func TestAtTheSameTime(t *testing.T) {
	list := few()
	done := make(chan bool)
	for _, s := range list {
		go func() {
			well := true
			m := masked(s, 9)
			for range 50 {
				area, e := shape.Area(s, 9)
				well = well && e == api.OK && area == len(m.cells)
				for bin, want := range m.hits(api.Dir{P: 2, Q: 1}) {
					many, e := shape.Hits(s, 9, api.Dir{P: 2, Q: 1}, bin)
					well = well && e == api.OK && many == want
				}
			}
			done <- well
		}()
	}
	for range list {
		if !<-done {
			t.Error("a call answers otherwise beside others")
		}
	}
}
