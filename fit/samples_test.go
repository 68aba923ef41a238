package fit_test

import (
	"fmt"
	"testing"

	"penumbra/api"
	"penumbra/cx"
	"penumbra/fit"
	"penumbra/sample"
)

// noRounds, noDown: what is no number of rounds, and no power.

func noRounds() []int { return append(sample.Ends(), -65, -64, -2, -1, 65, 66, 128, 1<<32, 1<<32+1) }

func noDown() []int { return append(sample.Ends(), -31, -30, -2, -1, 31, 32, 64, 1<<32, 1<<32+5) }

// field: of side n, its cells as part tells them.
func field(n int, part func() float64) api.Grid {
	var d sample.Dice
	return api.Grid{N: n, Cells: d.List(n*n, part)}
}

// square: a field by its cells.
func square(n int, cells ...complex128) api.Grid { return api.Grid{N: n, Cells: cells} }

// eight: the chapter's projection of side 1.
func eight() []api.Proj { return []api.Proj{sample.Proj(1, 0, 8)} }

func about(n int, projs []api.Proj) string {
	name := fmt.Sprintf("side %d, %d projections along", n, len(projs))
	for _, p := range projs[:min(len(projs), 4)] {
		name += fmt.Sprint(" ", p.Dir)
	}
	return name
}

func aboutRun(n int, projs []api.Proj, rounds, down int) string {
	return fmt.Sprintf("%d rounds, down %d, %s", rounds, down, about(n, projs))
}

// run: the fit that must be there.
func run(t *testing.T, start api.Grid, projs []api.Proj, rounds, down int) api.Fit {
	t.Helper()
	got, e := fit.Run(start, projs, rounds, down)
	if e != api.OK {
		t.Fatalf("%s: error %d", aboutRun(start.N, projs, rounds, down), e)
	}
	return got
}

// rests: those that must be there.
func rests(t *testing.T, f api.Grid, projs []api.Proj) []api.Proj {
	t.Helper()
	got, e := fit.Rests(f, projs)
	if e != api.OK {
		t.Fatalf("%s: error %d", about(f.N, projs), e)
	}
	return got
}

// checkList: are those the numbers, bit by bit?
func checkList(t *testing.T, name string, got, want []complex128) {
	t.Helper()
	if len(got) != len(want) {
		t.Fatalf("%s: %d numbers, not %d", name, len(got), len(want))
	}
	for place := range want {
		if !sample.Agree(got[place], want[place]) {
			t.Fatalf("%s, at %d: %s, not %s", name, place, cx.Text(got[place]), cx.Text(want[place]))
		}
	}
}

// checkProjs: are those the projections, bit by bit?
func checkProjs(t *testing.T, name string, got, want []api.Proj) {
	t.Helper()
	if len(got) != len(want) {
		t.Fatalf("%s: %d projections, not %d", name, len(got), len(want))
	}
	for i, p := range got {
		if p.Dir != want[i].Dir {
			t.Fatalf("%s, projection %d: along %v, not %v", name, i, p.Dir, want[i].Dir)
		}
		checkList(t, fmt.Sprintf("%s, projection %d", name, i), p.Bins, want[i].Bins)
	}
}

// checkSizes: are those the sizes, bit by bit?
func checkSizes(t *testing.T, name string, got, want []float64) {
	t.Helper()
	if len(got) != len(want) {
		t.Fatalf("%s: sizes %v, not %v", name, got, want)
	}
	for i := range want {
		if !sample.AgreePart(got[i], want[i]) {
			t.Fatalf("%s: sizes %v, not %v", name, got, want)
		}
	}
}

// checkFit: is that the field, and are those the sizes, bit by bit?
func checkFit(t *testing.T, name string, got, want api.Fit) {
	t.Helper()
	if got.Field.N != want.Field.N {
		t.Fatalf("%s: side %d, not %d", name, got.Field.N, want.Field.N)
	}
	checkList(t, name, got.Field.Cells, want.Field.Cells)
	checkSizes(t, name, got.Sizes, want.Sizes)
}

// noRun: it tells that error, and nothing beside it.
func noRun(t *testing.T, start api.Grid, projs []api.Proj, rounds, down int, want api.Errno) {
	t.Helper()
	got, e := fit.Run(start, projs, rounds, down)
	if e != want || got.Field.N != 0 || len(got.Field.Cells) != 0 || len(got.Sizes) != 0 {
		t.Fatalf("%s, %d cells: error %d, not %d, or something beside it", aboutRun(start.N, projs, rounds, down), len(start.Cells), e, want)
	}
}

// noneAnswers: both calls tell that error, whether rounds and down are right or not.
func noneAnswers(t *testing.T, f api.Grid, projs []api.Proj, want api.Errno) {
	t.Helper()
	got, e := fit.Rests(f, projs)
	if e != want || len(got) != 0 {
		t.Fatalf("Rests, %s, %d cells: error %d, not %d, or something beside it", about(f.N, projs), len(f.Cells), e, want)
	}
	ends := sample.Ends()
	for _, c := range [][2]int{{0, 0}, {64, 30}, {1, 5}, {-1, 0}, {65, 0}, {0, -1}, {0, 31}, {65, 31}, {ends[0], ends[1]}, {ends[1], ends[0]}} {
		noRun(t, f, projs, c[0], c[1], want)
	}
}
