package peel_test

import (
	"slices"
	"testing"

	"penumbra/api"
	"penumbra/peel"
	"penumbra/sample"
)

// few: sound ones of some sides, and others, small enough to be gone through many times.
func few() []api.Sino {
	out := []api.Sino{{}, one(1), one(5, api.MaxPart+1), one(api.MaxPart + 1), two(sample.Proj(1, 0, 7, 3), sample.Proj(1, 1, 3, 5, 2)), two(sample.Proj(1, 0, 8, 3), sample.Proj(1, 1, 3, 5, 2)), two(sample.Proj(1, 0, 7, 3), sample.Proj(0, 1, 4, 6)), two(sample.Proj(1, 2, 3, 1, 4, 2)), two(make([]api.Proj, 65)...)}
	return slices.Concat(out, sample.FewSinos(), sample.FewFlaws())
}

// P14.5: projections that are handed in are not changed, nor the room behind any of their lists, whatever is answered.
func TestProjectionsAreNotChanged(t *testing.T) {
	count := map[api.Errno]int{}
	for _, s := range few() {
		if sample.ChangedSino(s, func(same api.Sino) {
			_, e := peel.Solve(same)
			count[e]++
		}) {
			t.Fatalf("%s: changed", about(s))
		}
	}
	for _, e := range []api.Errno{api.OK, api.ErrArg, api.ErrLong, api.ErrDir, api.ErrTwice, api.ErrBins, api.ErrBig, api.ErrFew, api.ErrClash} {
		if count[e] == 0 {
			t.Errorf("none of them is told error %d", e)
		}
	}
}

// P14.5: nor are lists of directions.
func TestDirsAreNotChanged(t *testing.T) {
	for _, dirs := range append(small(), sample.Wheel(), sample.Wheel()[:64], sample.NoDirs(), []api.Dir{{P: 1}, {P: 1}}, []api.Dir{{P: -2, Q: 1}, {}, {P: 1}}) {
		room := append(slices.Clone(dirs), api.Dir{P: -16, Q: 1}, api.Dir{P: 7, Q: -7}, api.Dir{P: 1})
		before := slices.Clone(room)
		for _, n := range []int{0, 1, 3, 64} {
			peel.Open(n, room[:len(dirs)])
			peel.Left(n, room[:len(dirs)])
		}
		if !slices.Equal(room, before) {
			t.Fatalf("%v has become %v", before, room)
		}
	}
}

// P14.5: the grid that is told shares no memory with the projections nor with another answer, of before or of later.
func TestGridsAreNew(t *testing.T) {
	d := sample.Dice(154)
	for _, n := range []int{1, 2, 3, 8, 64} {
		s := sample.Seen(sample.Grids(n)[5], d.Enough(n))
		if n == 1 {
			s = one(3 - 2i) // a bin that is the whole grid
		}
		for place, p := range s.Projs {
			shares := sample.Shared(p.Bins, func(bins []complex128) []complex128 {
				g, _ := peel.Solve(sample.WithProj(s, place, api.Proj{Dir: p.Dir, Bins: bins}))
				return g.Cells
			})
			if shares != "" {
				t.Fatalf("%s: the cells share memory with %s", about(s), shares)
			}
		}
	}
	// One projection of a line for each cell, row by row: its bins are the cells.
	s := two(sample.Proj(-2, 1, 1, 2, 3, 4))
	g, e := peel.Solve(s)
	sample.WipeSino(s)
	checkGrid(t, "written over later", right(t, g, e), api.Grid{N: 2, Cells: []complex128{1, 2, 3, 4}})
}

// P14.5: Open answers a list of its own.
func TestOpenIsNew(t *testing.T) {
	for k, dirs := range small() {
		n := 1 + k%9
		first, _ := peel.Open(n, dirs)
		second, _ := peel.Open(n, dirs)
		want := slices.Clone(first)
		room := first[:cap(first)]
		for i := range room {
			room[i] = !room[i]
		}
		if !slices.Equal(second, want) {
			t.Fatalf("side %d, %v: it has become %v", n, dirs, second)
		}
		checkOpen(t, n, dirs, want)
	}
}

// P1, rule 5: calls at the same time do not show in each other's answers.
func TestAtTheSameTime(t *testing.T) {
	dirs := sample.Dirs()[8:14]
	s := sample.Seen(sample.Grids(32)[5], dirs)
	wrong := sample.WithBin(s, 1, 0, 77)
	for name, call := range map[string]func() []complex128{
		"Solve": func() []complex128 {
			g, e := peel.Solve(s)
			_, e2 := peel.Solve(wrong)
			return append(g.Cells, complex(float64(e), float64(e2)))
		},
		"Open and Left": func() []complex128 {
			open, _ := peel.Open(32, dirs[:2])
			left, _ := peel.Left(32, dirs[:2])
			out := []complex128{complex(float64(left), 0)}
			for cell, still := range open {
				if still {
					out = append(out, complex(float64(cell), 1))
				}
			}
			return out
		},
	} {
		if !sample.Alone(call) {
			t.Errorf("%s answers otherwise beside itself", name)
		}
	}
}
