package peel_test

import (
	"slices"
	"testing"

	"penumbra/api"
	"penumbra/closed"
	"penumbra/dir"
	"penumbra/ghost"
	"penumbra/grid"
	"penumbra/peel"
	"penumbra/phantom"
	"penumbra/ray"
	"penumbra/sample"
	"penumbra/sino"
)

// lists: of directions for grids of side n, of which some leave cells open and some don't.
func lists(n int, d *sample.Dice) [][]api.Dir {
	most := d.Enough(n)
	return [][]api.Dir{nil, most, most[:len(most)-1], most[1:], d.Picked(sample.Short(), 3), d.Picked(sample.Dirs(), 4), d.Picked(sample.Wheel(), 2), sample.Wheel()[n : n+12]}
}

// P14.2: of the projections of a sound grid just that grid, if no cell stays open, and ErrFew, if one does; of every side.
func TestExact(t *testing.T) {
	d := sample.Dice(147)
	well, few := 0, 0
	for n := 1; n <= 64; n++ {
		grids := sample.Grids(n)
		for k, dirs := range lists(n, &d) {
			left, e := peel.Left(n, dirs)
			right(t, left, e)
			for i, g := range grids {
				if n > 16 && (i+k+n)%4 != 0 {
					continue
				}
				s, e := ray.All(g, dirs, 4)
				right(t, s, e)
				got, e := peel.Solve(s)
				if left > 0 {
					refused(t, about(s), noGrid(got), e, api.ErrFew)
					few++
					continue
				}
				checkGrid(t, about(s), right(t, got, e), g)
				well++
			}
		}
	}
	if min(well, few) < 500 {
		t.Errorf("the samples are too much alike: %d are told, %d are not", well, few)
	}
}

// P14.2: what is told is sound and has just these projections, whatever projections they are.
func TestJustTheseProjections(t *testing.T) {
	d := sample.Dice(148)
	told := 0
	for k := range 4000 {
		n := 1 + k%5
		dirs := d.Enough(n)
		if k%4 == 0 {
			dirs = d.Picked(sample.Short(), 3)
		}
		s := sample.Seen(api.Grid{N: n, Cells: d.List(n*n, []func() float64{d.UpTo(2), d.Extreme, d.Whole}[k%3])}, dirs)
		if k%2 == 0 {
			s = off(s, &d, 1+k%3, d.UpTo(1))
		}
		g, e := peel.Solve(s)
		if e != api.OK {
			continue
		}
		told++
		if grid.Check(g) != api.OK || !sample.SameSino(sample.Seen(g, sino.Dirs(s)), s) {
			t.Fatalf("%s: not sound, or with other projections", about(s))
		}
	}
	if told < 1000 {
		t.Errorf("%d are told", told)
	}
}

// P14.2: a phantom's projections in closed form lead back to its raster.
func TestBackToTheRaster(t *testing.T) {
	d := sample.Dice(149)
	for _, n := range sample.Sides() {
		for _, p := range sample.Phantoms(n) {
			dirs := d.Enough(n)
			s, e := closed.All(p, dirs)
			right(t, s, e)
			raster, e := phantom.Raster(p)
			right(t, raster, e)
			g, e := peel.Solve(s)
			checkGrid(t, about(s), right(t, g, e), raster)
		}
	}
}

// P14.3: where Katz is true no cell stays open, at every side; where it is false one does, since there is a ghost.
func TestKatz(t *testing.T) {
	all := append(small(), sample.Wheel()[64:76], sample.Dirs()[10:18], []api.Dir{{P: 16, Q: 1}, {P: -16, Q: 1}, {P: 15, Q: 1}, {P: -15, Q: 1}})
	for k, d := range sample.Wheel() {
		if k%11 == 0 {
			all = append(all, []api.Dir{d})
		}
	}
	dice := sample.Dice(150)
	for many := 2; many <= 10; many++ {
		all = append(all, dice.Picked(sample.Wheel(), many), dice.Picked(sample.Wheel(), many), dice.Picked(sample.Dirs(), many))
	}
	count := map[bool]int{}
	for k, dirs := range all {
		for n := 1 + k%2; n <= 64; n += 2 {
			enough, e := dir.Katz(n, dirs)
			right(t, enough, e)
			left, e := peel.Left(n, dirs)
			if right(t, left, e) > 0 == enough {
				t.Fatalf("side %d, %v: %d are left, Katz says %v", n, dirs, left, enough)
			}
			count[enough]++
		}
	}
	if min(count[true], count[false]) < 1000 {
		t.Errorf("the samples are too much alike: %v", count)
	}
}

// P14.3: a ghost's cells all stay open.
func TestGhostsStayOpen(t *testing.T) {
	d := sample.Dice(151)
	for k := range 60 {
		dirs := d.Picked(sample.Short(), 1+k%6)
		h, e := ghost.Make(dirs)
		right(t, h, e)
		n := max(h.W, h.H) + k%3
		g, e := ghost.Haunt(sample.Filled(n, 0), h, (n-h.W)/2, n-h.H, 1)
		right(t, g, e)
		open, e := peel.Open(n, dirs)
		right(t, open, e)
		for cell, v := range g.Cells {
			if v != 0 && !open[cell] {
				t.Fatalf("side %d, %v: cell %d is told", n, dirs, cell)
			}
		}
	}
}

// P14.4: the order of the directions changes nothing: all orders of small lists, some of greater ones; nor does it in what Solve tells of a grid.
func TestOrders(t *testing.T) {
	d := sample.Dice(152)
	for many := 1; many <= 8; many++ {
		for k, from := range [][]api.Dir{sample.Short(), sample.Short()[:8], sample.Dirs(), sample.Wheel()} {
			dirs := d.Picked(from, many)
			n := 2 + (many+3*k)%8
			open, e := peel.Open(n, dirs)
			right(t, open, e)
			g := sample.Grids(n)[5]
			all := [][]api.Dir{}
			if many <= 5 {
				all = sample.Orders(dirs)
			} else {
				for range 40 {
					all = append(all, d.Picked(dirs, many))
				}
			}
			for _, order := range all {
				checkOpen(t, n, order, open)
				got, e := peel.Solve(sample.Seen(g, order))
				if slices.Contains(open, true) {
					refused(t, "Solve", noGrid(got), e, api.ErrFew)
				} else {
					checkGrid(t, "Solve", right(t, got, e), g)
				}
			}
		}
	}
}

// P14.4: with more directions no more cells stay open: none that was told before.
func TestMoreDirections(t *testing.T) {
	d := sample.Dice(153)
	fewer := 0
	for _, n := range append(sample.Sides(), 6, 7, 9, 10, 11, 12, 30) {
		for _, from := range [][]api.Dir{sample.Short(), sample.Dirs(), sample.Wheel(), sample.Short()[:6]} {
			before := opened(n)
			order := d.Picked(from, min(len(from), 20))
			for many := range len(order) + 1 {
				now, e := peel.Open(n, order[:many])
				right(t, now, e)
				for cell := range now {
					if now[cell] && !before[cell] {
						t.Fatalf("side %d, %v: cell %d is open again with the last one", n, order[:many], cell)
					}
				}
				if !slices.Equal(now, before) {
					fewer++
				}
				before = now
			}
		}
	}
	if fewer < 100 {
		t.Errorf("the samples are too much alike: fewer are open %d times", fewer)
	}
}
