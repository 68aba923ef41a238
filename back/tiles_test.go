package back_test

import (
	"fmt"
	"runtime"
	"testing"

	"penumbra/api"
	"penumbra/back"
	"penumbra/sample"
)

// checkTiles: is it that field, bit by bit?
func checkTiles(t *testing.T, n int, projs []api.Proj, side, workers int, want api.Grid) {
	t.Helper()
	f, e := back.Tiles(n, projs, side, workers)
	checkField(t, fmt.Sprintf("tiles of side %d by %d, %s", side, workers, about(n, projs)), right(t, f, e), want)
}

// P17.2: tiles of every side, to beyond the field's, by few workers and many, tell each bit of All.
func TestTiles(t *testing.T) {
	d := sample.Dice(176)
	for _, n := range sample.ManySides() {
		dirs, part := sample.Along()[n%len(sample.Along())], d.Parts()[n%len(d.Parts())]
		for _, given := range [][]api.Proj{projs(n, dirs, part), projs(n, sample.Dirs()[:7], d.Near), projs(n, sample.Dirs()[5:12], d.Between(-1074, 1024))} {
			want := all(t, n, given)
			checkField(t, about(n, given), want, sample.Laid(n, given))
			for side := 1; side <= min(n+2, api.MaxSide); side++ {
				for _, workers := range teams() {
					checkTiles(t, n, given, side, workers, want)
				}
			}
			checkTiles(t, n, given, api.MaxSide, api.MaxWorkers, want)
		}
	}
}

// P17.2: with bins of all kinds, along all kinds of lists.
func TestTilesOfEveryKind(t *testing.T) {
	d := sample.Dice(177)
	for _, n := range []int{1, 2, 3, 5, 8, 64} {
		for i, dirs := range sample.Along() {
			for j, part := range d.Parts() {
				given := projs(n, dirs, part)
				checkTiles(t, n, given, 1+(3*i+7*j)%n, 1+(i+5*j)%16, sample.Laid(n, given))
			}
		}
	}
}

// P17.2: by every number of workers that there may be, tiles being more than these and fewer.
func TestEveryTeam(t *testing.T) {
	d := sample.Dice(178)
	for _, n := range []int{1, 4, 13} {
		given := projs(n, sample.Dirs(), d.Near)
		want := sample.Laid(n, given)
		for workers := 1; workers <= api.MaxWorkers; workers++ {
			for side := 1; side <= api.MaxSide; side++ {
				checkTiles(t, n, given, side, workers, want)
			}
		}
	}
}

// P17.1: sides of tiles and numbers of workers that are none, also where the field has one cell and where there are no projections.
func TestNoTiles(t *testing.T) {
	for _, n := range sample.Sides() {
		for _, given := range [][]api.Proj{nil, sample.Blanks(n, sample.Dirs()).Projs} {
			for _, side := range sample.NoSides() {
				for _, workers := range append(teams(), 0, 17) {
					noTiles(t, n, given, side, workers, api.ErrArg)
				}
			}
			for _, workers := range noTeams() {
				for _, side := range []int{1, n, 64, 0, 65} {
					noTiles(t, n, given, side, workers, api.ErrArg)
				}
			}
		}
	}
}

// P1, rule 5: workers have ended when the call answers, or are about to.
func TestWorkersEnd(t *testing.T) {
	before := runtime.NumGoroutine()
	for range 200 {
		checkTiles(t, 2, example(), 1, api.MaxWorkers, sample.Laid(2, example()))
		noTiles(t, 2, example(), 0, api.MaxWorkers, api.ErrArg)
	}
	for tries := 0; runtime.NumGoroutine() > before; tries++ {
		if tries == 1000000 {
			t.Fatalf("%d go on that did not before", runtime.NumGoroutine()-before)
		}
		runtime.Gosched()
	}
}

// places: all cells of a small field, with those about it.
func places(n int) []api.Cell {
	var out []api.Cell
	for y := -1; y <= n; y++ {
		for x := -1; x <= n; x++ {
			out = append(out, cell(x, y))
		}
	}
	return out
}

// checkRegion: is that a part of the field, bit by bit, or none at all?
func checkRegion(t *testing.T, projs []api.Proj, field api.Grid, from, to api.Cell) bool {
	t.Helper()
	n := field.N
	if from.X < 0 || from.Y < 0 || to.X >= n || to.Y >= n || from.X > to.X || from.Y > to.Y {
		noRegion(t, n, projs, from, to, api.ErrArg)
		return false
	}
	list, e := back.Region(n, projs, from, to)
	checkCells(t, fmt.Sprintf("from %v to %v, %s", from, to, about(n, projs)), right(t, list, e), cut(field, from, to))
	return true
}

// P17.2, P17.1: Region of every two places in and about small fields.
func TestRegions(t *testing.T) {
	d := sample.Dice(179)
	for n := 1; n <= 5; n++ {
		for k, dirs := range [][]api.Dir{nil, sample.Dirs()[:8], {{P: -3, Q: 2}, {P: 1}, {P: -3, Q: 2}}} {
			given := projs(n, dirs, d.Parts()[(4*n+5*k)%12])
			field, there := all(t, n, given), 0
			checkField(t, about(n, given), field, sample.Laid(n, given))
			for _, from := range places(n) {
				for _, to := range places(n) {
					if checkRegion(t, given, field, from, to) {
						there++
					}
				}
			}
			if many := n * (n + 1) / 2; there != many*many {
				t.Fatalf("side %d: %d parts, not %d", n, there, many*many)
			}
		}
	}
}

// P17.2: Region of some places of all fields, with bins of every kind; the whole is All.
func TestRegionsOfEveryKind(t *testing.T) {
	d := sample.Dice(180)
	somewhere := func(n int) (int, int) {
		a, b := int(d.Word()%uint64(n)), int(d.Word()%uint64(n))
		return min(a, b), max(a, b)
	}
	for _, n := range sample.ManySides() {
		for i, dirs := range sample.Along() {
			for j, part := range d.Parts() {
				if n > 16 && (i+j)%4 != 0 {
					continue
				}
				given := projs(n, dirs, part)
				field := sample.Laid(n, given)
				left, right := somewhere(n)
				up, down := somewhere(n)
				checkRegion(t, given, field, cell(left, up), cell(right, down))
				checkRegion(t, given, field, cell(left, up), last(n))
				checkRegion(t, given, field, cell(0, 0), cell(right, down))
				checkRegion(t, given, field, cell(0, 0), last(n))
			}
		}
	}
}

// P17.1: places far outside, at the ends of int, alone and both.
func TestNoRegions(t *testing.T) {
	far := append(sample.Ends(), -65, -64, -1, 64, 65, 4096)
	for _, n := range sample.Sides() {
		for _, given := range [][]api.Proj{nil, sample.Blanks(n, sample.Dirs()).Projs} {
			for i, a := range far {
				b := far[(i+5)%len(far)]
				for _, c := range []api.Cell{cell(a, 0), cell(0, a), cell(a, n-1), cell(n-1, a), cell(a, a), cell(a, b)} {
					noRegion(t, n, given, c, last(n), api.ErrArg)
					noRegion(t, n, given, cell(0, 0), c, api.ErrArg)
					noRegion(t, n, given, c, c, api.ErrArg)
				}
			}
			if n > 1 {
				noRegion(t, n, given, cell(1, 0), cell(0, n-1), api.ErrArg)
				noRegion(t, n, given, cell(0, 1), cell(n-1, 0), api.ErrArg)
				noRegion(t, n, given, last(n), cell(0, 0), api.ErrArg)
			}
		}
	}
}
