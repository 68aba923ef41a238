package shape_test

import (
	"math"
	"testing"

	"penumbra/api"
	"penumbra/dir"
	"penumbra/sample"
	"penumbra/shape"
)

// agree: Run of all rows, and Area, as the cells themselves tell them.
func agree(t *testing.T, s api.Shape, m mask) {
	t.Helper()
	for y := range m.n {
		first, last, _ := m.row(y)
		if from, to, e := shape.Run(s, m.n, y); from != first || to != last || e != api.OK {
			t.Fatalf("%v, side %d, row %d: %d, %d, error %d, not %d, %d", s, m.n, y, from, to, e, first, last)
		}
	}
	if area, e := shape.Area(s, m.n); right(t, area, e) != len(m.cells) {
		t.Fatalf("%v, side %d: %d cells, not %d", s, m.n, area, len(m.cells))
	}
}

// agreeAlong: Hits of all bins.
func agreeAlong(t *testing.T, s api.Shape, m mask, d api.Dir) {
	t.Helper()
	for bin, want := range m.hits(d) {
		if got, e := shape.Hits(s, m.n, d, bin); right(t, got, e) != want {
			t.Fatalf("%v, side %d, %v, line %d: %d cells, not %d", s, m.n, d, bin, got, want)
		}
	}
}

// P7.1: shapes that lie in the grid, across its edges and corners, around it, beside it and far away, against a count cell by cell.
func TestRowsAndAreas(t *testing.T) {
	for _, n := range []int{1, 2, 3, 5} {
		for _, s := range append(shapes(n), anyShapes(n, 100)...) {
			agree(t, s, masked(s, n))
		}
	}
	for _, n := range sample.Sides() {
		for _, s := range append(anyShapes(n, 8), append(few(), far()...)...) {
			agree(t, s, masked(s, n))
		}
	}
}

// P7.1: every direction of a few steps, and some of 16, against a count cell by cell.
func TestHits(t *testing.T) {
	small, _ := dir.All(3)
	for _, n := range []int{1, 2, 3, 5} {
		for i, s := range append(anyShapes(n, 30), shapes(n)...) {
			if i > 150 && i%4 != 0 { // 41 follow one another at each place, so that all of them have a turn
				continue
			}
			m := masked(s, n)
			for _, d := range small {
				agreeAlong(t, s, m, d)
			}
		}
	}
	for _, n := range sample.Sides() {
		for _, s := range append(anyShapes(n, 3), append(few(), far()...)...) {
			m := masked(s, n)
			for _, d := range sample.Dirs() {
				agreeAlong(t, s, m, d)
			}
		}
	}
}

// P7.1: every direction there is.
func TestHitsOfAllDirections(t *testing.T) {
	all, _ := dir.All(16)
	for _, n := range []int{2, 7, 18} {
		for _, s := range anyShapes(n, 2) {
			m := masked(s, n)
			for _, d := range all {
				agreeAlong(t, s, m, d)
			}
		}
	}
}

// P7.1: a count by the program's own calls about cells, Inside and dir.Line.
func TestCountsByInside(t *testing.T) {
	for _, n := range []int{4, 17, 64} {
		for _, s := range append(anyShapes(n+100, 4), few()...) {
			area := 0
			for y := range n {
				many, first := 0, 0
				for x := range n {
					if shape.Inside(s, x, y) {
						if many == 0 {
							first = x
						}
						many++
					}
				}
				area += many
				if from, to, e := shape.Run(s, n, y); e != api.OK || to-from != many || from != first {
					t.Fatalf("%v, side %d, row %d: %d, %d", s, n, y, from, to)
				}
			}
			if got, e := shape.Area(s, n); right(t, got, e) != area {
				t.Fatalf("%v, side %d: %d cells, not %d", s, n, got, area)
			}
			for _, d := range sample.Dirs() {
				bins, _ := dir.Bins(n, d)
				for bin := 0; bin < bins; bin += 1 + n/8 {
					want := 0
					cells, _ := dir.Line(n, d, bin)
					for _, c := range cells {
						if shape.Inside(s, c.X, c.Y) {
							want++
						}
					}
					if got, e := shape.Hits(s, n, d, bin); right(t, got, e) != want {
						t.Fatalf("%v, side %d, %v, line %d: %d, not %d", s, n, d, bin, got, want)
					}
				}
			}
		}
	}
}

// P7.1: a row that the grid has not holds none, whatever the shape has there.
func TestNoSuchRow(t *testing.T) {
	for _, n := range sample.Sides() {
		for _, s := range append(few(), rect(-1024, -1024, 1024, 1024), rect(-500, -500, 1024, 1024), disc(0, 0, 1024*1024), wedge(-10, -10, 1024, 1024)) {
			for _, y := range append(sample.Ends(), -1024, -2, -1, n, n+1, 64, 1024) {
				if from, to, e := shape.Run(s, n, y); from != 0 || to != 0 || e != api.OK {
					t.Errorf("%v, side %d, row %d: %d, %d, error %d", s, n, y, from, to, e)
				}
			}
		}
	}
}

// P7.1: counts that are written out.
func TestCountsWrittenOut(t *testing.T) {
	for _, c := range []struct {
		s       api.Shape
		n, area int
	}{
		{rect(-1024, 0, 1024, 64), 64, 0}, {rect(-1023, 0, 1024, 64), 64, 64}, {rect(63, 63, 1024, 1024), 64, 1}, {rect(64, 0, 1, 1), 64, 0}, {rect(-5, -5, 1024, 1024), 64, 4096},
		{disc(0, 0, 0), 1, 1}, {disc(1, 0, 0), 1, 0}, {disc(1, 0, 1), 1, 1}, {disc(-1024, 0, 1024*1024-1), 1, 0}, {disc(-1024, 0, 1024*1024), 1, 1}, {disc(-724, -724, 1024*1024), 64, 1}, {disc(31, 31, 25), 64, 81}, {disc(0, 0, 25), 64, 26},
		{wedge(0, 0, 1, 1), 64, 1}, {wedge(0, 0, 1024, 1024), 64, 4096}, {wedge(-1023, 0, 1024, 1), 64, 1}, {wedge(-1024, 0, 1024, 1024), 64, 0}, {wedge(-512, -511, 1024, 1024), 64, 1}, {wedge(0, 0, 3, 2), 4, 5},
	} {
		if area, e := shape.Area(c.s, c.n); right(t, area, e) != c.area {
			t.Errorf("%v, side %d: %d cells, not %d", c.s, c.n, area, c.area)
		}
	}
	// All of a grid: as many as the line has; a single cell: on its own line alone.
	for bin, want := range []int{1, 1, 2, 1, 2, 1, 1} { // of side 3 along (1, 2)
		if many, e := shape.Hits(rect(-1, -1, 9, 9), 3, api.Dir{P: 1, Q: 2}, bin); right(t, many, e) != want {
			t.Errorf("line %d: %d, not %d", bin, many, want)
		}
		own := 0
		if bin == 3 { // 2*1 - 1*1 + 2
			own = 1
		}
		if many, e := shape.Hits(disc(1, 1, 0), 3, api.Dir{P: 1, Q: 2}, bin); right(t, many, e) != own {
			t.Errorf("line %d: %d, not %d", bin, many, own)
		}
	}
}

// P7.1: what is no shape is told ahead of all, then a side that is none, a direction, a bin.
func TestRefused(t *testing.T) {
	wrongSides, wrongDirs := sample.NoSides(), sample.NoDirs()
	for _, s := range noShapes() {
		for i, n := range append([]int{1, 5, 64}, wrongSides...) {
			for _, y := range []int{0, -1, 1, math.MaxInt} {
				from, to, e := shape.Run(s, n, y)
				refused(t, "Run of no shape", [2]int{from, to}, e, api.ErrShape)
			}
			area, e := shape.Area(s, n)
			refused(t, "Area of no shape", area, e, api.ErrShape)
			for _, d := range []api.Dir{{P: 1}, {P: 1, Q: 1}, wrongDirs[i%len(wrongDirs)]} {
				for _, bin := range []int{0, -1, math.MaxInt} {
					many, e := shape.Hits(s, n, d, bin)
					refused(t, "Hits of no shape", many, e, api.ErrShape)
				}
			}
		}
	}
	for _, s := range few() {
		for i, n := range wrongSides {
			for _, y := range []int{0, -1, 1, math.MinInt, math.MaxInt} {
				from, to, e := shape.Run(s, n, y)
				refused(t, "Run of no side", [2]int{from, to}, e, api.ErrArg)
			}
			area, e := shape.Area(s, n)
			refused(t, "Area of no side", area, e, api.ErrArg)
			for _, d := range []api.Dir{{P: 1}, {P: 1, Q: 1}, wrongDirs[i%len(wrongDirs)]} {
				for _, bin := range []int{0, -1, math.MaxInt} {
					many, e := shape.Hits(s, n, d, bin)
					refused(t, "Hits of no side", many, e, api.ErrArg)
				}
			}
		}
	}
}

// P7.1: Hits of what is no direction, then of what is no bin.
func TestHitsRefused(t *testing.T) {
	for _, s := range few() {
		for _, n := range sample.Sides() {
			for _, d := range sample.NoDirs() {
				for _, bin := range []int{0, 1, -1, math.MinInt, math.MaxInt} {
					many, e := shape.Hits(s, n, d, bin)
					refused(t, "Hits of no direction", many, e, api.ErrDir)
				}
			}
			for _, d := range sample.Dirs() {
				bins, _ := dir.Bins(n, d)
				for _, bin := range append(sample.Ends(), -1024, -2, -1, bins, bins+1, 2*bins, 1<<20) {
					many, e := shape.Hits(s, n, d, bin)
					refused(t, "Hits of no bin", many, e, api.ErrArg)
				}
				for _, bin := range []int{0, bins - 1} {
					_, e := shape.Hits(s, n, d, bin)
					right(t, bin, e)
				}
			}
		}
	}
}
