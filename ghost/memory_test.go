package ghost_test

import (
	"slices"
	"testing"

	"penumbra/api"
	"penumbra/ghost"
	"penumbra/sample"
)

// P13.4: lists of directions are not changed, the room behind them neither, whatever is answered.
func TestDirsNotChanged(t *testing.T) {
	all := append(lists(), sample.Wheel(), sample.Short(), sample.NoDirs(), []api.Dir{{P: 1}, {P: 1}}, []api.Dir{{P: -2, Q: 1}, {}, {P: 1}})
	for _, dirs := range all {
		long := append(slices.Clone(dirs), api.Dir{P: -16, Q: 1}, api.Dir{P: 7, Q: -7}, api.Dir{P: 1})
		before := slices.Clone(long)
		ghost.Make(long[:len(dirs)])
		ghost.Fits(64, long[:len(dirs)])
		ghost.Fits(3, long[:len(dirs)])
		ghost.Fits(0, long[:len(dirs)])
		if !slices.Equal(long, before) {
			t.Fatalf("%v has become %v", before, long)
		}
	}
}

// P13.4: grids and ghosts are not changed, the room behind their cells neither.
func TestNotChanged(t *testing.T) {
	all := append(noGhosts(), of(t), of(t, sample.Short()[:4]...), of(t, wide(63)...))
	for _, s := range sizes() {
		all = append(all, ghosts(s[0], s[1])...)
	}
	for k, h := range all {
		changed := sample.Changed(h.Cells, func(cells []complex128) {
			same := api.Ghost{W: h.W, H: h.H, Cells: cells}
			ghost.Check(same)
			ghost.Blind(same, api.Dir{P: 1})
			ghost.Blind(same, api.Dir{P: 2, Q: -2})
			ghost.Haunt(sample.Filled(1+k%64, 3), same, 0, 0, 2i)
		})
		if changed {
			t.Fatalf("%d by %d, %d cells: changed", h.W, h.H, len(h.Cells))
		}
	}
	grids := sample.NoGrids()
	for _, n := range sample.Sides() {
		grids = append(grids, sample.Grids(n)...)
	}
	for _, g := range grids {
		for _, h := range []api.Ghost{of(t), of(t, sample.Short()[:4]...), {}} {
			changed := sample.Changed(g.Cells, func(cells []complex128) {
				same := api.Grid{N: g.N, Cells: cells}
				ghost.Haunt(same, h, 0, 0, 1)
				ghost.Haunt(same, h, 0, 0, 0)
				ghost.Haunt(same, h, 0, -1, -1)
			})
			if changed {
				t.Fatalf("side %d, %d cells: changed", g.N, len(g.Cells))
			}
		}
	}
}

// P13.4: an answer is new memory, shared with no argument and no other answer, of before or of later.
func TestAnswersAreNew(t *testing.T) {
	for _, dirs := range lists() {
		shares := sample.Shared(nil, func([]complex128) []complex128 {
			h, _ := ghost.Make(dirs)
			return h.Cells
		})
		if shares != "" {
			t.Fatalf("Make of %v: the cells share memory with %s", dirs, shares)
		}
	}
	for _, n := range sample.Sides() {
		for _, h := range []api.Ghost{of(t), filled(n, n, 1), filled(1, n, 0)} {
			for _, v := range []complex128{0, 1, -3i} {
				shares := sample.Shared(sample.Numbered(n).Cells, func(cells []complex128) []complex128 {
					g, _ := ghost.Haunt(api.Grid{N: n, Cells: cells}, h, 0, 0, v)
					return g.Cells
				})
				if shares != "" {
					t.Fatalf("Haunt, side %d: the cells share memory with %s, the grid being the argument", n, shares)
				}
				shares = sample.Shared(h.Cells, func(cells []complex128) []complex128 {
					g, _ := ghost.Haunt(sample.Numbered(n), api.Ghost{W: h.W, H: h.H, Cells: cells}, 0, 0, v)
					return g.Cells
				})
				if shares != "" {
					t.Fatalf("Haunt, side %d: the cells share memory with %s, the ghost being the argument", n, shares)
				}
			}
		}
	}
}

// P1, rule 5: calls at the same time do not show in each other's answers.
func TestAtTheSameTime(t *testing.T) {
	dirs, g := sample.Short()[:8], sample.Grids(64)[4]
	h := of(t, dirs...)
	told := func(yes bool) []complex128 {
		if yes {
			return []complex128{1}
		}
		return []complex128{0}
	}
	for name, call := range map[string]func() []complex128{
		"Make": func() []complex128 {
			h, _ := ghost.Make(dirs)
			return h.Cells
		},
		"Haunt": func() []complex128 {
			out, _ := ghost.Haunt(g, h, 3, 5, 1-2i)
			return out.Cells
		},
		"Blind": func() []complex128 {
			yes, _ := ghost.Blind(h, dirs[2])
			no, _ := ghost.Blind(h, api.Dir{P: 5, Q: 7})
			return append(told(yes), told(no)...)
		},
		"Fits and Check": func() []complex128 {
			fits, _ := ghost.Fits(10, dirs)
			return append(told(fits), told(ghost.Check(h) == api.OK)...)
		},
	} {
		if !sample.Alone(call) {
			t.Errorf("%s answers otherwise beside itself", name)
		}
	}
}
