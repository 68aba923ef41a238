package grid_test

import (
	"math"
	"testing"

	"penumbra/api"
	"penumbra/grid"
	"penumbra/sample"
)

// P5.1: the chapter's examples.
func TestExamples(t *testing.T) {
	g := api.Grid{N: 2, Cells: []complex128{1, 2, 3, 4}}
	for name, c := range map[string]struct {
		do   func() (api.Grid, api.Errno)
		want []complex128
	}{
		"Quarter": {func() (api.Grid, api.Errno) { return grid.Quarter(g, 1) }, []complex128{3, 1, 4, 2}},
		"Mirror":  {func() (api.Grid, api.Errno) { return grid.Mirror(g) }, []complex128{2, 1, 4, 3}},
		"Roll":    {func() (api.Grid, api.Errno) { return grid.Roll(g, 1, 0) }, []complex128{2, 1, 4, 3}},
		"Shift":   {func() (api.Grid, api.Errno) { return grid.Shift(g, 1, 0) }, []complex128{0, 1, 0, 3}},
	} {
		got, e := c.do()
		check(t, name, right(t, got, e), api.Grid{N: 2, Cells: c.want})
	}
	if s, e := grid.Sum(g); e != api.OK || s != 10 {
		t.Errorf("Sum: %v, error %d", s, e)
	}
	if a, b, ok := grid.Box(g); !ok || a != (api.Cell{}) || b != (api.Cell{X: 1, Y: 1}) {
		t.Errorf("Box: %v, %v, %v", a, b, ok)
	}
	got, e := grid.Put(g, 2, 0, 1)
	refused(t, "Put beyond the edge", got, e, api.ErrArg)
	got, e = grid.Put(g, 0, 0, 0.5)
	refused(t, "Put of a half", got, e, api.ErrArg)
	got, e = grid.New(65)
	refused(t, "New(65)", got, e, api.ErrArg)
}

// P5.1: which grids are sound; every side there is.
func TestCheck(t *testing.T) {
	for n := 1; n <= 64; n++ {
		if e := grid.Check(sample.Filled(n, complex(api.MaxPart, -api.MaxPart))); e != api.OK {
			t.Errorf("side %d: error %d", n, e)
		}
	}
	for _, n := range sample.Sides() {
		for _, g := range sample.Grids(n) {
			if e := grid.Check(g); e != api.OK {
				t.Errorf("side %d, first cell %v: error %d", n, g.Cells[0], e)
			}
		}
	}
	for _, g := range sample.NoGrids() {
		if e := grid.Check(g); e != api.ErrGrid {
			t.Errorf("side %d, %d cells: error %d", g.N, len(g.Cells), e)
		}
	}
	// What stands in the spare room is no cell.
	cells := append([]complex128{1}, complex(math.NaN(), 0.5))
	if e := grid.Check(api.Grid{N: 1, Cells: cells[:1]}); e != api.OK {
		t.Errorf("a NaN in the spare room: error %d", e)
	}
}

// P5.1: new grids, and sides that are none.
func TestNew(t *testing.T) {
	for n := 1; n <= 64; n++ {
		g, e := grid.New(n)
		check(t, "New", right(t, g, e), api.Grid{N: n, Cells: make([]complex128, n*n)})
	}
	for _, n := range []int{math.MinInt, math.MinInt + 1, -1 << 32, -65, -64, -2, -1, 0, 65, 66, 128, 4096, 1 << 31, 1 << 32, 1<<32 + 1, 1 << 62, math.MaxInt - 1, math.MaxInt} {
		g, e := grid.New(n)
		refused(t, "New", g, e, api.ErrArg)
	}
}

// P5.1: cells inside the grid, and 0 where there is none.
func TestAt(t *testing.T) {
	for _, n := range sample.Sides() {
		g := sample.Numbered(n)
		for _, y := range anyInts(n) {
			for _, x := range anyInts(n) {
				var want complex128
				if 0 <= x && x < n && 0 <= y && y < n {
					want = g.Cells[y*n+x]
				}
				if got := grid.At(g, x, y); !sample.Agree(got, want) {
					t.Fatalf("side %d, (%d, %d): %v, not %v", n, x, y, got, want)
				}
			}
		}
	}
	for _, g := range sample.NoGrids() {
		for _, c := range []api.Cell{{}, {X: 1}, {Y: 1}, {X: g.N - 1, Y: g.N - 1}, {X: -1}, {X: math.MinInt, Y: math.MaxInt}} {
			if got := grid.At(g, c.X, c.Y); !sample.Agree(got, 0) {
				t.Fatalf("unsound, side %d, %d cells, %v: %v", g.N, len(g.Cells), c, got)
			}
		}
	}
}

// P5.1: every place can have another cell, and no other place changes.
func TestPut(t *testing.T) {
	for _, n := range sample.Sides() {
		g := sample.Numbered(n)
		for place := 0; place < n*n; place += 1 + n*n/50 {
			v := complex(float64(-place), api.MaxPart)
			got, e := grid.Put(g, place%n, place/n, v)
			check(t, "Put", right(t, got, e), sample.With(g, place, v))
		}
		for _, v := range []complex128{0, 1, -1i, api.MaxPart, -api.MaxPart, complex(0, api.MaxPart), complex(0, -api.MaxPart), complex(api.MaxPart, -api.MaxPart), complex(-api.MaxPart, api.MaxPart)} {
			got, e := grid.Put(g, n-1, n/2, v)
			check(t, "Put", right(t, got, e), sample.With(g, n/2*n+n-1, v))
		}
	}
}

// P5.1: places that there aren't, and what is no cell's value.
func TestPutRefused(t *testing.T) {
	for _, n := range sample.Sides() {
		g := sample.Numbered(n)
		for _, y := range anyInts(n) {
			for _, x := range anyInts(n) {
				if 0 <= x && x < n && 0 <= y && y < n {
					continue
				}
				got, e := grid.Put(g, x, y, 1)
				refused(t, "Put at no place", got, e, api.ErrArg)
			}
		}
		for _, v := range sample.NoValues() {
			got, e := grid.Put(g, n-1, 0, v)
			refused(t, "Put of no value", got, e, api.ErrArg)
			got, e = grid.Put(g, n, -1, v)
			refused(t, "Put of no value at no place", got, e, api.ErrArg)
		}
	}
}

// P5.1: grids moved by any ways.
func TestMoves(t *testing.T) {
	for _, n := range []int{1, 2, 3, 4, 13} {
		g := sample.Numbered(n)
		for _, dx := range anyInts(n) {
			for _, dy := range anyInts(n) {
				got, e := grid.Shift(g, dx, dy)
				check(t, "Shift", right(t, got, e), shifted(g, dx, dy))
				got, e = grid.Roll(g, dx, dy)
				check(t, "Roll", right(t, got, e), rolled(g, dx, dy))
			}
		}
	}
	for _, n := range []int{63, 64} {
		g := sample.Numbered(n)
		for _, d := range anyInts(n) {
			got, e := grid.Shift(g, d, 2)
			check(t, "Shift", right(t, got, e), shifted(g, d, 2))
			got, e = grid.Shift(g, -1, d)
			check(t, "Shift", right(t, got, e), shifted(g, -1, d))
			got, e = grid.Roll(g, d, 2)
			check(t, "Roll", right(t, got, e), rolled(g, d, 2))
			got, e = grid.Roll(g, -1, d)
			check(t, "Roll", right(t, got, e), rolled(g, -1, d))
		}
	}
}

// P5.1: mirrors, and any number of quarters, of all kinds of cells.
func TestTurns(t *testing.T) {
	for _, n := range sample.Sides() {
		for _, g := range sample.Grids(n) {
			got, e := grid.Mirror(g)
			check(t, "Mirror", right(t, got, e), mirrored(g))
			for k := -4; k <= 5; k++ {
				got, e := grid.Quarter(g, k)
				check(t, "Quarter", right(t, got, e), turned(g, k))
			}
		}
		for _, k := range anyInts(n) {
			got, e := grid.Quarter(sample.Numbered(n), k)
			check(t, "Quarter", right(t, got, e), turned(sample.Numbered(n), k))
		}
	}
}

// P5.1: moves and turns whose answers are written out, three cells a side.
func TestWrittenOut(t *testing.T) {
	g := api.Grid{N: 3, Cells: []complex128{1, 2, 3, 4, 5, 6, 7, 8, 9}}
	for name, c := range map[string]struct {
		do   func() (api.Grid, api.Errno)
		want []complex128
	}{
		"Shift right":    {func() (api.Grid, api.Errno) { return grid.Shift(g, 1, 0) }, []complex128{0, 1, 2, 0, 4, 5, 0, 7, 8}},
		"Shift down":     {func() (api.Grid, api.Errno) { return grid.Shift(g, 0, 1) }, []complex128{0, 0, 0, 1, 2, 3, 4, 5, 6}},
		"Shift up, left": {func() (api.Grid, api.Errno) { return grid.Shift(g, -1, -2) }, []complex128{8, 9, 0, 0, 0, 0, 0, 0, 0}},
		"Shift away":     {func() (api.Grid, api.Errno) { return grid.Shift(g, 0, 3) }, make([]complex128, 9)},
		"Roll right":     {func() (api.Grid, api.Errno) { return grid.Roll(g, 1, 0) }, []complex128{3, 1, 2, 6, 4, 5, 9, 7, 8}},
		"Roll down":      {func() (api.Grid, api.Errno) { return grid.Roll(g, 0, 4) }, []complex128{7, 8, 9, 1, 2, 3, 4, 5, 6}},
		"Roll left, up":  {func() (api.Grid, api.Errno) { return grid.Roll(g, -1, -1) }, []complex128{5, 6, 4, 8, 9, 7, 2, 3, 1}},
		"Mirror":         {func() (api.Grid, api.Errno) { return grid.Mirror(g) }, []complex128{3, 2, 1, 6, 5, 4, 9, 8, 7}},
		"no Quarter":     {func() (api.Grid, api.Errno) { return grid.Quarter(g, 0) }, []complex128{1, 2, 3, 4, 5, 6, 7, 8, 9}},
		"one Quarter":    {func() (api.Grid, api.Errno) { return grid.Quarter(g, 1) }, []complex128{7, 4, 1, 8, 5, 2, 9, 6, 3}},
		"two Quarters":   {func() (api.Grid, api.Errno) { return grid.Quarter(g, 2) }, []complex128{9, 8, 7, 6, 5, 4, 3, 2, 1}},
		"three Quarters": {func() (api.Grid, api.Errno) { return grid.Quarter(g, 3) }, []complex128{3, 6, 9, 2, 5, 8, 1, 4, 7}},
		"the least int":  {func() (api.Grid, api.Errno) { return grid.Quarter(g, math.MinInt) }, []complex128{1, 2, 3, 4, 5, 6, 7, 8, 9}},
		"the greatest":   {func() (api.Grid, api.Errno) { return grid.Quarter(g, math.MaxInt) }, []complex128{3, 6, 9, 2, 5, 8, 1, 4, 7}},
	} {
		got, e := c.do()
		check(t, name, right(t, got, e), api.Grid{N: 3, Cells: c.want})
	}
}

// P5.1: the sum, the greatest and the least ones among them.
func TestSum(t *testing.T) {
	for _, n := range sample.Sides() {
		for _, g := range sample.Grids(n) {
			if got, e := grid.Sum(g); e != api.OK || !sample.Agree(got, total(g).number()) {
				t.Errorf("side %d: %v, error %d, not %v", n, got, e, total(g))
			}
		}
	}
	if got, e := grid.Sum(sample.Filled(64, complex(api.MaxPart, -api.MaxPart))); e != api.OK || got != complex(1<<32, -1<<32) {
		t.Errorf("the greatest sum: %v, error %d", got, e)
	}
	if got, e := grid.Sum(api.Grid{N: 2, Cells: []complex128{-5 + 2i, 5, -2i, 0}}); e != api.OK || !sample.Agree(got, 0) {
		t.Errorf("a sum of 0: %v, error %d", got, e)
	}
}

// P5.1: one cell at each place, and two at any pair of places.
func TestBox(t *testing.T) {
	for _, n := range sample.Sides() {
		if a, b, ok := grid.Box(sample.Filled(n, 0)); ok || a != (api.Cell{}) || b != (api.Cell{}) {
			t.Errorf("side %d, no cell: %v, %v, %v", n, a, b, ok)
		}
		for i := 0; i < n*n; i += 1 + n*n/40 {
			for j := 0; j < n*n; j += 1 + n*n/30 {
				g := sample.With(sample.With(sample.Filled(n, 0), i, -1), j, 1i)
				least := api.Cell{X: min(i%n, j%n), Y: min(i/n, j/n)}
				greatest := api.Cell{X: max(i%n, j%n), Y: max(i/n, j/n)}
				if a, b, ok := grid.Box(g); !ok || a != least || b != greatest {
					t.Fatalf("side %d, cells at %d and %d: %v, %v, %v", n, i, j, a, b, ok)
				}
			}
		}
		last := n*n - 1
		for _, places := range [][2]int{{0, last}, {n - 1, last - n + 1}} {
			g := sample.With(sample.With(sample.Filled(n, 0), places[0], 2), places[1], -2i)
			if a, b, ok := grid.Box(g); !ok || a != (api.Cell{}) || b != (api.Cell{X: n - 1, Y: n - 1}) {
				t.Errorf("side %d, opposite corners: %v, %v, %v", n, a, b, ok)
			}
		}
		if a, b, ok := grid.Box(sample.Numbered(n)); !ok || a != (api.Cell{}) || b != (api.Cell{X: n - 1, Y: n - 1}) {
			t.Errorf("side %d, all cells: %v, %v, %v", n, a, b, ok)
		}
	}
	for _, g := range sample.NoGrids() {
		if a, b, ok := grid.Box(g); ok || a != (api.Cell{}) || b != (api.Cell{}) {
			t.Errorf("unsound, side %d, %d cells: %v, %v, %v", g.N, len(g.Cells), a, b, ok)
		}
	}
}
