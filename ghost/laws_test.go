package ghost_test

import (
	"slices"
	"testing"

	"penumbra/api"
	"penumbra/dir"
	"penumbra/ghost"
	"penumbra/grid"
	"penumbra/ray"
	"penumbra/sample"
)

// P13.2: where there is a ghost it is sound, not all of its cells are 0, and it is blind along each of its directions.
func TestGhostsAreNotSeen(t *testing.T) {
	for _, dirs := range lists() {
		h, e := ghost.Make(dirs)
		if e != api.OK {
			continue
		}
		if e := ghost.Check(h); e != api.OK {
			t.Fatalf("%v: not sound, error %d", dirs, e)
		}
		if !slices.ContainsFunc(h.Cells, func(v complex128) bool { return v != 0 }) {
			t.Fatalf("%v: noughts alone", dirs)
		}
		for _, d := range dirs {
			if blind, e := ghost.Blind(h, d); !right(t, blind, e) {
				t.Fatalf("%v: seen along %v", dirs, d)
			}
		}
	}
}

// P13.2: a grid has the same projections along the ghost's directions with the ghost and without it, by rays and cell by cell, and is another one all the same.
func TestHauntIsNotSeen(t *testing.T) {
	for k, dirs := range lists() {
		h, e := ghost.Make(dirs)
		if e != api.OK || k%6 != 0 && len(dirs) == 1 {
			continue
		}
		for _, n := range []int{max(h.W, h.H), min(max(h.W, h.H)+3, 64), 64} {
			g := sample.Grids(n)[4] // parts of half the greatest, so that there is room for the ghost
			x, y := (n-h.W)*(k%3)/2, (n-h.H)*(k%4)/3
			out, e := ghost.Haunt(g, h, x, y, 5-3i)
			right(t, out, e)
			if e := grid.Check(out); e != api.OK || slices.Equal(out.Cells, g.Cells) {
				t.Fatalf("%v: no sound grid, or the same one", dirs)
			}
			if !sample.SameSino(sample.Seen(out, dirs), sample.Seen(g, dirs)) {
				t.Fatalf("%v, side %d: a projection is another one", dirs, n)
			}
			for _, d := range dirs {
				before, e := ray.Project(g, d)
				right(t, before, e)
				after, e := ray.Project(out, d)
				if !sample.SameProj(right(t, after, e), before) {
					t.Fatalf("%v, side %d: seen by rays along %v", dirs, n, d)
				}
			}
		}
	}
}

// P13.2: v and then its negative leave the grid as it was, bit by bit.
func TestHauntTakenBack(t *testing.T) {
	for _, dirs := range [][]api.Dir{nil, sample.Short()[:1], sample.Short()[:4], sample.Short()[3:6], sample.Short()[:8], wide(63)} {
		h := of(t, dirs...)
		g := sample.Grids(64)[4]
		out, e := ghost.Haunt(g, h, 0, 0, 7-2i)
		right(t, out, e)
		again, e := ghost.Haunt(out, h, 0, 0, -7+2i)
		checkGrid(t, "Haunt taken back", right(t, again, e), g)
	}
}

// P13.3: Fits is true just where Katz says false, and refuses what Katz refuses, at every n.
func TestFitsAndKatz(t *testing.T) {
	all := append(lists(), sample.Short(), sample.Dirs(), sample.Wheel(), sample.NoDirs(), append(sample.Short(), sample.Short()...), append(sample.Short(), api.Dir{}, api.Dir{P: 1}))
	for _, dirs := range all {
		for n := -1; n <= 66; n++ {
			enough, wrong := dir.Katz(n, dirs)
			fits, e := ghost.Fits(n, dirs)
			if e != wrong || fits != (wrong == api.OK && !enough) {
				t.Fatalf("%v, side %d: fits %v, error %d; enough %v, error %d", dirs, n, fits, e, enough, wrong)
			}
		}
	}
}

// P13.3: where directions don't determine every grid, there are two unlike grids that no projection along them tells apart; where they do, there is no room for the ghost.
func TestTwoGridsAlike(t *testing.T) {
	for k, dirs := range lists() {
		h, e := ghost.Make(dirs)
		if e != api.OK || k%3 != 0 && len(dirs) == 1 {
			continue
		}
		for n := 1; n <= 64; n += 1 + n/8 {
			one := sample.Filled(n, 0)
			other, e := ghost.Haunt(one, h, 0, 0, 1)
			if enough, wrong := dir.Katz(n, dirs); right(t, enough, wrong) {
				refused(t, "Haunt of a side that is too small", noGrid(other), e, api.ErrArg)
				continue
			}
			right(t, other, e)
			if slices.Equal(one.Cells, other.Cells) || !sample.SameSino(sample.Seen(one, dirs), sample.Seen(other, dirs)) {
				t.Fatalf("%v, side %d: not two grids, or told apart", dirs, n)
			}
		}
	}
}

// P13.4: the order of the directions changes nothing: all orders of small lists, some of greater ones.
func TestOrders(t *testing.T) {
	d := sample.Dice(134)
	for many := 1; many <= 8; many++ {
		for _, from := range [][]api.Dir{sample.Short(), sample.Dirs(), sample.Short()[2:]} {
			dirs := d.Picked(from, many)
			want, wrong := ghost.Make(dirs)
			all := [][]api.Dir{}
			if many <= 5 {
				all = sample.Orders(dirs)
			} else {
				for range 40 {
					all = append(all, d.Picked(dirs, many))
				}
			}
			for _, order := range all {
				h, e := ghost.Make(order)
				if e != wrong {
					t.Fatalf("%v: error %d, not %d", order, e, wrong)
				}
				checkGhost(t, order, h, want)
				for _, n := range []int{1, want.W, want.H, max(want.W, want.H) - 1, 64} {
					fits, e := ghost.Fits(n, order)
					other, wrong := ghost.Fits(n, dirs)
					if fits != other || e != wrong {
						t.Fatalf("%v, side %d: %v, error %d, not %v, error %d", order, n, fits, e, other, wrong)
					}
				}
			}
		}
	}
}
