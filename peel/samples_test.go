package peel_test

import (
	"fmt"
	"slices"
	"testing"

	"penumbra/api"
	"penumbra/cx"
	"penumbra/peel"
	"penumbra/sample"
)

// small: lists of directions for grids of small sides: none, one, and some of a few steps, many of which leave cells open.
func small() [][]api.Dir {
	out := [][]api.Dir{nil, {}, sample.Short(), sample.Dirs()}
	for _, d := range sample.Short() {
		out = append(out, []api.Dir{d})
	}
	d := sample.Dice(14)
	for many := 2; many <= 7; many++ {
		for range 9 {
			out = append(out, d.Picked(sample.Short(), many), d.Picked(sample.Short()[:6], min(many, 6)), d.Picked(sample.Dirs(), many))
		}
	}
	return out
}

// subsets: all lists of some of these directions.
func subsets(dirs []api.Dir) [][]api.Dir {
	var out [][]api.Dir
	for choice := range 1 << len(dirs) {
		var some []api.Dir
		for i, d := range dirs {
			if choice>>i&1 == 1 {
				some = append(some, d)
			}
		}
		out = append(out, some)
	}
	return out
}

// once: each direction at its first place alone.
func once(dirs []api.Dir) []api.Dir {
	var out []api.Dir
	for _, d := range dirs {
		if !slices.Contains(out, d) {
			out = append(out, d)
		}
	}
	return out
}

// off: the projections with some bins a little off, so that they contradict one another.
func off(s api.Sino, d *sample.Dice, many int, part func() float64) api.Sino {
	out := sample.CopySino(s)
	for range many {
		bins := out.Projs[d.Word()%uint64(len(out.Projs))].Bins
		at := &bins[d.Word()%uint64(len(bins))]
		if v := *at + complex(part(), part()); cx.Whole(cx.Plain(v), api.MaxBin) {
			*at = cx.Plain(v)
		}
	}
	return out
}

// one: projections of side 1 along the first directions, a bin each.
func one(bins ...complex128) api.Sino {
	out := api.Sino{N: 1}
	for i, v := range bins {
		out.Projs = append(out.Projs, api.Proj{Dir: sample.Short()[i], Bins: []complex128{v}})
	}
	return out
}

// two: projections of side 2.
func two(projs ...api.Proj) api.Sino { return api.Sino{N: 2, Projs: projs} }

func about(s api.Sino) string {
	name := fmt.Sprintf("side %d, along", s.N)
	for _, p := range s.Projs[:min(len(s.Projs), 8)] {
		name += fmt.Sprint(" ", p.Dir)
	}
	return name
}

// right: what was answered without an error.
func right[T any](t *testing.T, got T, e api.Errno) T {
	t.Helper()
	if e != api.OK {
		t.Fatalf("error %d", e)
	}
	return got
}

// refused: with that error, and nothing beside it.
func refused(t *testing.T, name string, empty bool, e, want api.Errno) {
	t.Helper()
	if e != want || !empty {
		t.Fatalf("%s: error %d, not %d, or something beside it", name, e, want)
	}
}

func noGrid(g api.Grid) bool { return g.N == 0 && len(g.Cells) == 0 }

// checkGrid: are those the cells, bit by bit?
func checkGrid(t *testing.T, what string, got, want api.Grid) {
	t.Helper()
	if got.N != want.N || len(got.Cells) != len(want.Cells) {
		t.Fatalf("%s: side %d with %d cells, not %d with %d", what, got.N, len(got.Cells), want.N, len(want.Cells))
	}
	for place := range want.Cells {
		if !sample.Agree(got.Cells[place], want.Cells[place]) {
			t.Fatalf("%s, cell %d: %s, not %s", what, place, cx.Text(got.Cells[place]), cx.Text(want.Cells[place]))
		}
	}
}

// checkSolve: is it what plain peeling tells?
func checkSolve(t *testing.T, s api.Sino) api.Errno {
	t.Helper()
	want, wrong := solved(s, first())
	g, e := peel.Solve(s)
	if wrong != api.OK {
		refused(t, about(s), noGrid(g), e, wrong)
		return e
	}
	checkGrid(t, about(s), right(t, g, e), want)
	return e
}

// solves: with that error, and with what plain peeling tells.
func solves(t *testing.T, name string, s api.Sino, want api.Errno) {
	t.Helper()
	if e := checkSolve(t, s); e != want {
		t.Fatalf("%s: error %d, not %d", name, e, want)
	}
}

// checkOpen: are those the cells that stay open, and as many as Left says?
func checkOpen(t *testing.T, n int, dirs []api.Dir, want []bool) int {
	t.Helper()
	open, e := peel.Open(n, dirs)
	if !slices.Equal(right(t, open, e), want) {
		t.Fatalf("side %d, %v: %v, not %v", n, dirs, open, want)
	}
	count := 0
	for _, still := range want {
		if still {
			count++
		}
	}
	if left, e := peel.Left(n, dirs); right(t, left, e) != count {
		t.Fatalf("side %d, %v: %d are left, not %d", n, dirs, left, count)
	}
	return count
}

// noneOpen: Open and Left tell that error.
func noneOpen(t *testing.T, n int, dirs []api.Dir, want api.Errno) {
	t.Helper()
	name := fmt.Sprintf("side %d, %d directions", n, len(dirs))
	open, e := peel.Open(n, dirs)
	refused(t, "Open, "+name, len(open) == 0, e, want)
	left, e := peel.Left(n, dirs)
	refused(t, "Left, "+name, left == 0, e, want)
}
