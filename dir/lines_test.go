package dir_test

import (
	"slices"
	"testing"

	"penumbra/api"
	"penumbra/dir"
	"penumbra/sample"
)

// agree: all that the calls tell of the lines of a grid, cell by cell and line by line.
func agree(t *testing.T, n int, d api.Dir) {
	t.Helper()
	want := lines(n, d)
	if got, e := dir.Bins(n, d); right(t, got, e) != want.bins {
		t.Fatalf("side %d, %v: %d bins, not %d", n, d, got, want.bins)
	}
	for y := range n {
		for x := range n {
			if got, e := dir.Index(n, d, x, y); right(t, got, e) != want.at(x, y) {
				t.Fatalf("side %d, %v, cell (%d, %d): line %d, not %d", n, d, x, y, got, want.at(x, y))
			}
		}
	}
	for bin, cells := range want.cells() {
		if got, e := dir.Line(n, d, bin); !slices.Equal(right(t, got, e), cells) {
			t.Fatalf("side %d, %v, line %d: %v, not %v", n, d, bin, got, cells)
		}
	}
}

// P6.1: bins, lines and cells of all directions at small sides, and of those with an edge about them at others.
func TestLines(t *testing.T) {
	for n := 1; n <= 5; n++ {
		for _, d := range forms(16) {
			agree(t, n, d)
		}
	}
	for _, n := range sample.Sides() {
		for _, d := range sample.Dirs() {
			agree(t, n, d)
		}
	}
	for n := 1; n <= 64; n++ {
		agree(t, n, api.Dir{P: 1})
		agree(t, n, api.Dir{P: -3, Q: 2})
	}
}

// P6.1: lines that are written out; some hold no cell.
func TestLinesWrittenOut(t *testing.T) {
	cells := func(xy ...int) []api.Cell {
		var out []api.Cell
		for j := 0; j < len(xy); j += 2 {
			out = append(out, api.Cell{X: xy[j], Y: xy[j+1]})
		}
		return out
	}
	for d, all := range map[api.Dir][][]api.Cell{
		{P: 1}:        {cells(0, 2, 1, 2, 2, 2), cells(0, 1, 1, 1, 2, 1), cells(0, 0, 1, 0, 2, 0)},
		{Q: 1}:        {cells(0, 0, 0, 1, 0, 2), cells(1, 0, 1, 1, 1, 2), cells(2, 0, 2, 1, 2, 2)},
		{P: 1, Q: 1}:  {cells(0, 2), cells(0, 1, 1, 2), cells(0, 0, 1, 1, 2, 2), cells(1, 0, 2, 1), cells(2, 0)},
		{P: -1, Q: 1}: {cells(0, 0), cells(1, 0, 0, 1), cells(2, 0, 1, 1, 0, 2), cells(2, 1, 1, 2), cells(2, 2)},
		{P: 1, Q: 2}:  {cells(0, 2), cells(0, 1), cells(0, 0, 1, 2), cells(1, 1), cells(1, 0, 2, 2), cells(2, 1), cells(2, 0)},
		{P: 2, Q: 3}:  {cells(0, 2), cells(), cells(0, 1), cells(1, 2), cells(0, 0), cells(1, 1), cells(2, 2), cells(1, 0), cells(2, 1), cells(), cells(2, 0)},
	} {
		for bin, want := range all {
			if got, e := dir.Line(3, d, bin); !slices.Equal(right(t, got, e), want) {
				t.Errorf("%v, line %d: %v, not %v", d, bin, got, want)
			}
		}
		if got, e := dir.Bins(3, d); right(t, got, e) != len(all) {
			t.Errorf("%v: %d bins, not %d", d, got, len(all))
		}
	}
}

// P6.1: sides that are none are told ahead of all else, then what is no direction, then cells and bins that there aren't.
func TestLinesRefused(t *testing.T) {
	for _, places := range [][2]int{{0, 0}, {-1, 3}, {1 << 20, -5}} {
		for name, do := range calls(places[0], places[1]) {
			for _, n := range sample.NoSides() {
				for _, d := range append(sample.Dirs()[:4], sample.NoDirs()[:8]...) {
					got, e := do(n, d)
					refused(t, name+" of no side", got, e, api.ErrArg)
				}
			}
			for _, n := range sample.Sides() {
				for _, d := range sample.NoDirs() {
					got, e := do(n, d)
					refused(t, name+" of no direction", got, e, api.ErrDir)
				}
			}
		}
	}
}

// P6.1: cells one beyond the edge and farther, for the sake of either place or of both.
func TestNoSuchCell(t *testing.T) {
	for _, n := range sample.Sides() {
		for _, d := range sample.Dirs() {
			for _, away := range beyond(n) {
				if 0 <= away && away < n {
					continue
				}
				for _, c := range []api.Cell{{X: away}, {Y: away}, {X: away, Y: n - 1}, {X: n - 1, Y: away}, {X: away, Y: away}} {
					got, e := dir.Index(n, d, c.X, c.Y)
					refused(t, "Index", got, e, api.ErrArg)
				}
			}
		}
	}
}

// P6.1: bins one beyond either end and farther.
func TestNoSuchBin(t *testing.T) {
	for _, n := range sample.Sides() {
		for _, d := range sample.Dirs() {
			bins := lines(n, d).bins
			for _, bin := range append(sample.Ends(), -bins, -2, -1, bins, bins+1, 2*bins, 4096) {
				if got, e := dir.Line(n, d, bin); len(got) != 0 || e != api.ErrArg {
					t.Fatalf("side %d, %v, bin %d: %v, error %d", n, d, bin, got, e)
				}
			}
		}
	}
}
