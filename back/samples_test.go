package back_test

import (
	"fmt"
	"math"
	"testing"

	"penumbra/api"
	"penumbra/back"
	"penumbra/cx"
	"penumbra/sample"
)

// teams: numbers of workers.
func teams() []int { return []int{1, 2, 3, 7, 16} }

// noTeams: what is no number of workers.
func noTeams() []int { return append(sample.Ends(), -17, -16, -1, 0, 17, 18, 64, 1<<32+16) }

// kinds: of filters, all that there are.
func kinds() []int { return []int{api.Flat, api.Ramp, api.Soft} }

// noKinds: the neighbours of those, and the ends of int.
func noKinds() []int { return append(sample.Ends(), -3, -2, -1, 0, 4, 5) }

// projs: a projection along each direction, each with bins of its own.
func projs(n int, dirs []api.Dir, part func() float64) []api.Proj {
	return sample.Projs(n, dirs, part).Projs
}

// cell: a place.
func cell(x, y int) api.Cell { return api.Cell{X: x, Y: y} }

// last: the place at the right and at the bottom.
func last(n int) api.Cell { return cell(n-1, n-1) }

// example: the chapter's, of side 2.
func example() []api.Proj { return []api.Proj{sample.Proj(1, 0, 7, 3), sample.Proj(0, 1, 4, 6)} }

func about(n int, projs []api.Proj) string {
	name := fmt.Sprintf("side %d, %d projections along", n, len(projs))
	for _, p := range projs[:min(len(projs), 4)] {
		name += fmt.Sprint(" ", p.Dir)
	}
	return name
}

// right: what was answered without an error.
func right[T any](t *testing.T, got T, e api.Errno) T {
	t.Helper()
	if e != api.OK {
		t.Fatalf("error %d", e)
	}
	return got
}

// all: the field that must be there.
func all(t *testing.T, n int, projs []api.Proj) api.Grid {
	t.Helper()
	f, e := back.All(n, projs)
	return right(t, f, e)
}

// checkCells: are those the numbers, bit by bit?
func checkCells(t *testing.T, name string, got, want []complex128) {
	t.Helper()
	if len(got) != len(want) {
		t.Fatalf("%s: %d cells, not %d", name, len(got), len(want))
	}
	for place := range want {
		if !sample.Agree(got[place], want[place]) {
			t.Fatalf("%s, cell %d: %s, not %s", name, place, cx.Text(got[place]), cx.Text(want[place]))
		}
	}
}

// checkField: is that the field, bit by bit?
func checkField(t *testing.T, name string, got, want api.Grid) {
	t.Helper()
	if got.N != want.N {
		t.Fatalf("%s: side %d, not %d", name, got.N, want.N)
	}
	checkCells(t, name, got.Cells, want.Cells)
}

// refused: with that error, and nothing beside it.
func refused(t *testing.T, name string, empty bool, e, want api.Errno) {
	t.Helper()
	if e != want || !empty {
		t.Fatalf("%s: error %d, not %d, or something beside it", name, e, want)
	}
}

func noGrid(g api.Grid) bool { return g.N == 0 && len(g.Cells) == 0 }

// noTiles, noRegion, noFiltered: the call tells that error.

func noTiles(t *testing.T, n int, projs []api.Proj, side, workers int, want api.Errno) {
	t.Helper()
	f, e := back.Tiles(n, projs, side, workers)
	refused(t, fmt.Sprintf("Tiles of side %d by %d, %s", side, workers, about(n, projs)), noGrid(f), e, want)
}

func noRegion(t *testing.T, n int, projs []api.Proj, from, to api.Cell, want api.Errno) {
	t.Helper()
	list, e := back.Region(n, projs, from, to)
	refused(t, fmt.Sprintf("Region from %v to %v, %s", from, to, about(n, projs)), len(list) == 0, e, want)
}

func noFiltered(t *testing.T, n int, projs []api.Proj, kind int, want api.Errno) {
	t.Helper()
	f, e := back.Filtered(n, projs, kind)
	refused(t, fmt.Sprintf("Filtered by kind %d, %s", kind, about(n, projs)), noGrid(f), e, want)
}

// noneAnswers: every call tells that error, whether its own arguments are right or not.
func noneAnswers(t *testing.T, n int, projs []api.Proj, want api.Errno) {
	t.Helper()
	f, e := back.All(n, projs)
	refused(t, "All, "+about(n, projs), noGrid(f), e, want)
	for _, c := range [][2]int{{1, 1}, {64, 16}, {0, 1}, {65, 16}, {1, 0}, {64, 17}, {math.MinInt, math.MaxInt}} {
		noTiles(t, n, projs, c[0], c[1], want)
	}
	for _, c := range [][2]api.Cell{{{}, {}}, {{X: -1}, {}}, {{}, {Y: 64}}, {{X: 1}, {}}, {cell(math.MaxInt, 0), cell(0, math.MinInt)}} {
		noRegion(t, n, projs, c[0], c[1], want)
	}
	for _, kind := range []int{api.Flat, api.Ramp, api.Soft, 0, 4, math.MinInt} {
		noFiltered(t, n, projs, kind, want)
	}
}
