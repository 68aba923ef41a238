package shape_test

import (
	"math"
	"testing"

	"penumbra/api"
	"penumbra/sample"
	"penumbra/shape"
)

// P7.1: the chapter's examples.
func TestExamples(t *testing.T) {
	for _, c := range []struct {
		s              api.Shape
		n, y, from, to int
		area           int
	}{
		{rect(1, 1, 2, 3), 4, 1, 1, 3, 6}, {rect(1, 1, 2, 3), 4, 0, 0, 0, 6},
		{disc(2, 2, 4), 5, 2, 0, 5, 13}, {disc(2, 2, 4), 5, 0, 2, 3, 13},
		{wedge(0, 0, 3, 3), 4, 0, 0, 3, 6}, {wedge(0, 0, 3, 3), 4, 2, 0, 1, 6},
	} {
		if from, to, e := shape.Run(c.s, c.n, c.y); from != c.from || to != c.to || e != api.OK {
			t.Errorf("Run(%v, %d, %d): %d, %d, error %d", c.s, c.n, c.y, from, to, e)
		}
		if area, e := shape.Area(c.s, c.n); right(t, area, e) != c.area {
			t.Errorf("Area(%v, %d): %d", c.s, c.n, area)
		}
	}
	if many, e := shape.Hits(disc(2, 2, 4), 5, api.Dir{P: 1, Q: 1}, 4); right(t, many, e) != 3 {
		t.Errorf("Hits: %d", many)
	}
	for _, s := range []api.Shape{rect(0, 0, 0, 1), {Kind: api.Disc, A: 1, B: 1}, {Kind: 4, A: 1, B: 1}} {
		if e := shape.Check(s); e != api.ErrShape {
			t.Errorf("Check(%v): error %d", s, e)
		}
	}
}

// P7.1: every kind and what is none, with places and measures at their edges, one beyond them, and at the ends of int, each with each.
func TestCheck(t *testing.T) {
	kinds := []int{1, 2, 3, 0, 4, -1, -2, math.MinInt, math.MaxInt, 1<<32 + 1}
	places := []int{-1024, 0, 3, 1024, -1025, 1025, math.MinInt, math.MaxInt}
	measures := []int{0, 1, 2, 1023, 1024, -1, 1025, -1024, 1024*1024 - 1, 1024 * 1024, 1024*1024 + 1, math.MinInt, math.MaxInt, 1<<32 + 1}
	for _, kind := range kinds {
		for _, x := range places {
			for _, y := range places {
				for _, a := range measures {
					for _, b := range measures {
						s := api.Shape{Kind: kind, X: x, Y: y, A: a, B: b}
						want := api.ErrShape
						if isShape(s) {
							want = api.OK
						}
						if e := shape.Check(s); e != want {
							t.Fatalf("%v: error %d, not %d", s, e, want)
						}
					}
				}
			}
		}
	}
}

// P7.1: what the samples say of themselves, and that a worth, which is another layer's business, does not matter.
func TestCheckOfSamples(t *testing.T) {
	for _, worth := range worths() {
		for _, s := range append(few(), far()...) {
			if s.Worth = worth; shape.Check(s) != api.OK {
				t.Errorf("%v is one", s)
			}
		}
		for _, s := range noShapes() {
			if s.Worth = worth; shape.Check(s) != api.ErrShape {
				t.Errorf("%v is none", s)
			}
		}
	}
}

// places: about where a shape begins and ends along one axis, far beyond it, and where differences, squares and products go round.
func places(from, long int) []int {
	out := []int{from - 1, from, from + 1, from + long/2, from + long - 1, from + long, from + long + 1, from - long, from - long - 1, -2048, -2049, 2048, 2049, 4096, 0}
	out = append(out, sample.Ends()...)
	for power := 11; power < 63; power++ {
		out = append(out, from+1<<power, from-1<<power)
	}
	return append(out, math.MinInt+max(from, 0), math.MinInt+max(from, 0)+long, math.MaxInt+min(from, 0), math.MaxInt+min(from, 0)-long)
}

// P7.1: cells in a shape, on its edge, beyond it, and as far away as an int tells.
func TestInside(t *testing.T) {
	for _, s := range few() {
		wide, high := s.A, s.B
		if s.Kind == api.Disc {
			wide = int(math.Sqrt(float64(s.A)))
			high = wide
		}
		for _, x := range places(s.X, wide) {
			for _, y := range places(s.Y, high) {
				if got := shape.Inside(s, x, y); got != lies(s, x, y) {
					t.Fatalf("%v, (%d, %d): %v", s, x, y, got)
				}
			}
		}
	}
}

// P7.1: every cell about small shapes.
func TestInsideAllAbout(t *testing.T) {
	for _, s := range append(anyShapes(5, 40), few()...) {
		for y := s.Y - 14; y < s.Y+19; y++ {
			for x := s.X - 14; x < s.X+19; x++ {
				if got := shape.Inside(s, x, y); got != lies(s, x, y) {
					t.Fatalf("%v, (%d, %d): %v", s, x, y, got)
				}
			}
		}
	}
}

// P7.1: the whole edge of great shapes: where one column after the other has its last cell, and the next one.
func TestInsideAtTheEdge(t *testing.T) {
	for _, s := range []api.Shape{disc(0, 0, 1024*1024), disc(1024, -1024, 1024*1024), disc(-7, 9, 1000*1000-1), disc(3, 3, 3), wedge(-1024, -1024, 1024, 1024), wedge(1024, 1024, 1024, 1023), wedge(5, -6, 1000, 7), wedge(-3, 4, 7, 1000), rect(1000, -1024, 1024, 1024)} {
		y := s.Y
		for x := s.X; lies(s, x, s.Y); x++ {
			for !lies(s, x, y) { // the edge falls from column to column, or rises from the first one on
				y--
			}
			for lies(s, x, y+1) {
				y++
			}
			if !shape.Inside(s, x, y) || shape.Inside(s, x, y+1) {
				t.Fatalf("%v, column %d: its last cell is that of row %d", s, x, y)
			}
		}
	}
	// Pythagoras: 1024² is no sum of two other squares, but 1000² is one.
	for _, c := range [][2]int{{600, 800}, {-800, 600}, {280, -960}, {-352, -936}, {0, 1000}, {-1000, 0}} {
		if !shape.Inside(disc(5, -5, 1000*1000), 5+c[0], c[1]-5) || shape.Inside(disc(5, -5, 1000*1000-1), 5+c[0], c[1]-5) {
			t.Errorf("%v lies just on the edge", c)
		}
	}
}

// P7.1: nothing lies in what is no shape.
func TestInsideOfNone(t *testing.T) {
	for _, s := range noShapes() {
		for _, x := range []int{0, 1, -1, 2, s.X, s.X + 1, math.MinInt, math.MaxInt} {
			for _, y := range []int{0, 1, 2, s.Y, s.Y + 1, math.MinInt, math.MaxInt} {
				if shape.Inside(s, x, y) {
					t.Errorf("%v holds (%d, %d)", s, x, y)
				}
			}
		}
	}
}

// moves: none, to the end of the reach and one beyond it, over all of it and one beyond that, and the ends of int.
func moves(at int) []int {
	return append(sample.Ends(), 0, 1, -1, 1024-at, 1025-at, -1024-at, -1025-at, 2048, -2048, 2049, -2049)
}

// P7.1: shapes moved, their other fields as they were, bit by bit, or refused where they would stand beyond the reach.
func TestMoved(t *testing.T) {
	for i, s := range few() {
		s.Worth = worths()[i%len(worths())]
		for _, dx := range moves(s.X) {
			for _, dy := range moves(s.Y) {
				x, y := sum(whole(s.X), whole(dx)), sum(whole(s.Y), whole(dy))
				got, e := shape.Moved(s, dx, dy)
				if x.CmpAbs(whole(1024)) > 0 || y.CmpAbs(whole(1024)) > 0 {
					refused(t, "Moved beyond the reach", got, e, api.ErrShape)
					continue
				}
				if right(t, got, e); got.X != int(x.Int64()) || got.Y != int(y.Int64()) || got.Kind != s.Kind || got.A != s.A || got.B != s.B || !sample.Agree(got.Worth, s.Worth) {
					t.Errorf("%v by %d, %d: %v", s, dx, dy, got)
				}
			}
		}
	}
}

// P7.1: what is no shape is not moved, also where it would be one at the other place.
func TestMovedOfNone(t *testing.T) {
	for _, s := range noShapes() {
		for _, dx := range append(sample.Ends(), 0, 1, -1, -s.X) {
			for _, dy := range []int{0, 1, -1, -s.Y, math.MinInt, math.MaxInt} {
				got, e := shape.Moved(s, dx, dy)
				refused(t, "Moved of no shape", got, e, api.ErrShape)
			}
		}
	}
}
