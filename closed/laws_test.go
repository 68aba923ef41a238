package closed_test

import (
	"testing"

	"penumbra/api"
	"penumbra/closed"
	"penumbra/phantom"
	"penumbra/ray"
	"penumbra/sample"
)

// some: for every other phantom those of its side, for the rest others, unlike ones for each.
func some(n, i int) []api.Dir {
	if i%2 == n%2 {
		return dirs(n)
	}
	return sample.Wheel()[3*i : 3*i+4]
}

// P10.2: Project tells what rays tell of the Raster, bit by bit, and Chord each bin of it.
func TestClosedFormIsRays(t *testing.T) {
	for _, n := range sample.Sides() {
		for i, p := range append(sample.AllPhantoms(n), sample.AnyPhantoms(n+64, 10)...) {
			p.N = n
			g, e := phantom.Raster(p)
			right(t, g, e)
			for _, d := range some(n, i) {
				byRays, e := ray.Project(g, d)
				right(t, byRays, e)
				q, e := closed.Project(p, d)
				if !sample.SameProj(right(t, q, e), byRays) {
					t.Fatalf("%v along %v: %v by rays, %v in closed form", p, d, byRays.Bins, q.Bins)
				}
				for bin := i % 7; bin < len(byRays.Bins); bin += 1 + n/9 {
					if v, e := closed.Chord(p, d, bin); !sample.Agree(right(t, v, e), byRays.Bins[bin]) {
						t.Fatalf("%v along %v, bin %d: %v by rays, %v in closed form", p, d, bin, byRays.Bins[bin], v)
					}
				}
			}
		}
	}
}

// P10.2: All tells what rays tell, by any workers.
func TestManyAreRays(t *testing.T) {
	for _, n := range sample.Sides() {
		for i, dirs := range sample.DirLists() {
			for _, p := range []api.Phantom{sample.Phantoms(n)[i], sample.Waste(n)[i%7], sample.AnyPhantoms(n, 20)[i]} {
				g, e := phantom.Raster(p)
				byRays, e2 := ray.All(right(t, g, e), dirs, 1+i)
				s, e := closed.All(p, dirs)
				if !sample.SameSino(right(t, s, e), right(t, byRays, e2)) {
					t.Fatalf("%v, %d directions: not what rays tell", p, len(dirs))
				}
			}
		}
	}
}

// P10.2: lists of directions are refused just as they are by rays.
func TestRefusedAsRaysAre(t *testing.T) {
	p := example()
	g, e := phantom.Raster(p)
	right(t, g, e)
	for _, f := range sample.DirFlaws() {
		_, byRays := ray.All(g, f.Dirs, 2)
		if _, e := closed.All(p, f.Dirs); e != byRays {
			t.Fatalf("%v: error %d, by rays %d", f.Dirs, e, byRays)
		}
	}
}

// P10.1: the Moment's sums are those over the cells of layer 8's Raster.
func TestMomentOfTheRaster(t *testing.T) {
	for _, n := range sample.Sides() {
		for _, p := range sample.AllPhantoms(n) {
			g, e := phantom.Raster(p)
			right(t, g, e)
			var all []pair
			for _, v := range g.Cells {
				all = append(all, pairOf(v))
			}
			mx, my := moments(n, all)
			if x, y, e := closed.Moment(p); e != api.OK || !sameMoments(x, y, mx, my) {
				t.Fatalf("%v: %v, %v, not %v, %v, error %d", p, x, y, mx, my, e)
			}
		}
	}
}

// P10.3: number times bin, over all bins, is Q*mx - P*my + m*Mass.
func TestCentres(t *testing.T) {
	for _, n := range sample.Sides() {
		for i, p := range append(sample.AllPhantoms(n), sample.AnyPhantoms(n+128, 20)...) {
			p.N = n
			mx, my, e := closed.Moment(p)
			mass, e2 := phantom.Mass(p)
			right(t, mx, e)
			right(t, mass, e2)
			for _, d := range some(n, i) {
				q, e := closed.Project(p, d)
				var sum pair
				for bin, v := range right(t, q, e).Bins {
					sum = sum.plus(pairOf(v).times(bin))
				}
				want := pairOf(mx).times(d.Q).plus(pairOf(my).times(-d.P)).plus(pairOf(mass).times(origin(n, d)))
				if sum != want {
					t.Fatalf("%v along %v: %v, not %v", p, d, sum, want)
				}
			}
		}
	}
}
