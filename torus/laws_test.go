package torus_test

import (
	"math"
	"testing"

	"penumbra/api"
	"penumbra/closed"
	"penumbra/grid"
	"penumbra/phantom"
	"penumbra/sample"
	"penumbra/torus"
)

// theorem: is what Prove tells within Bound, and Slice what Project is?
func theorem(t *testing.T, g api.Grid, s slope) {
	t.Helper()
	bound, e := torus.Bound(g.N)
	right(t, bound, e)
	far, e := torus.Prove(g, s.a, s.b)
	if !(right(t, far, e) <= bound) {
		t.Fatalf("side %d, along %v: %v far, beyond %v", g.N, s, far, bound)
	}
	bins, e := torus.Project(g, s.a, s.b)
	right(t, bins, e)
	other, e := torus.Slice(g, s.a, s.b)
	if len(right(t, other, e)) != len(bins) {
		t.Fatalf("side %d, along %v: %d bins, not %d", g.N, s, len(other), len(bins))
	}
	for bin, v := range bins {
		if other[bin] != v {
			t.Fatalf("side %d, along %v, bin %d: %v by the transform, %v by remainders", g.N, s, bin, other[bin], v)
		}
	}
}

// P12.2: the slice theorem, at every side, along all remainders where they are few.
func TestSliceTheorem(t *testing.T) {
	for _, n := range powers() {
		for k, g := range grids(n) {
			all := someSlopes(n)
			if n <= 8 {
				all = append(all, allSlopes(n)...)
			}
			for at, s := range all {
				if n < 32 || (at+k)%3 == 0 {
					theorem(t, g, s)
				}
			}
		}
	}
}

// P12.2: along all remainders of greater sides, one grid each.
func TestSliceTheoremAlongAll(t *testing.T) {
	for _, s := range allSlopes(16) {
		theorem(t, sample.Grids(16)[6], s)
	}
	for k, s := range allSlopes(64) {
		if k%11 == 0 {
			theorem(t, sample.Grids(64)[5], s)
		}
	}
}

// P12.3: the bins add up to the sum of the cells.
func TestBinsAddUp(t *testing.T) {
	for _, n := range append(powers(), others()...) {
		for _, g := range grids(n) {
			sum, e := grid.Sum(g)
			right(t, sum, e)
			for _, s := range someSlopes(n) {
				bins, e := torus.Project(g, s.a, s.b)
				if got := total(right(t, bins, e)); got != sum {
					t.Fatalf("side %d, along %v: %v, not %v", n, s, got, sum)
				}
			}
		}
	}
}

// rounds: numbers with the remainder of a by n; a is one itself.
func rounds(n, a int) []int {
	return []int{a - n, a + n, a - 7*n, a + 1000*n, a + math.MaxInt/n/2*n, a - math.MaxInt/n/2*n}
}

// P12.3: a and b count by their remainders alone, bit by bit.
func TestRemaindersAlone(t *testing.T) {
	for _, n := range append(powers(), others()...) {
		g := sample.Grids(n)[5]
		for _, s := range []slope{{0, 0}, {1 % n, 0}, {0, n - 1}, {n / 2, n / 3}, {n - 1, n / 2}} {
			bins, e := torus.Project(g, s.a, s.b)
			right(t, bins, e)
			slice, _ := torus.Slice(g, s.a, s.b)
			far, _ := torus.Prove(g, s.a, s.b)
			for k, a := range rounds(n, s.a) {
				b := rounds(n, s.b)[(k+2)%6]
				same, e := torus.Project(g, a, b)
				check(t, "Project", n, slope{a, b}, right(t, same, e), bins)
				same, _ = torus.Slice(g, a, b)
				check(t, "Slice", n, slope{a, b}, same, slice)
				if again, _ := torus.Prove(g, a, b); again != far {
					t.Fatalf("Prove, side %d, along %v and %v: %v, not %v", n, a, b, again, far)
				}
			}
		}
	}
}

// P12.3: a grid rolled by (u, v) has the bins moved round by a*u + b*v.
func TestRolled(t *testing.T) {
	rolls := []slope{{0, 0}, {1, 0}, {0, 1}, {-1, 2}, {3, -5}, {64, -63}, {-65, 129}, {1000003, -999983}, {math.MinInt, math.MaxInt}, {math.MaxInt - 2, math.MinInt + 5}}
	for _, n := range append(powers(), others()...) {
		g := sample.Grids(n)[5]
		for k, s := range someSlopes(n) {
			bins, e := torus.Project(g, s.a, s.b)
			right(t, bins, e)
			for at, r := range rolls {
				rolled, e := grid.Roll(g, r.a, r.b)
				right(t, rolled, e)
				want := movedRound(bins, reached(n, s, r.a, r.b))
				moved, e := torus.Project(rolled, s.a, s.b)
				check(t, "Project of a rolled grid", n, s, right(t, moved, e), want)
				if n&(n-1) == 0 && (k+at)%4 == 0 {
					moved, e = torus.Slice(rolled, s.a, s.b)
					check(t, "Slice of a rolled grid", n, s, right(t, moved, e), want)
				}
			}
		}
	}
}

// P2: a phantom's projection in closed form, folded round, is the projection on the joined grid.
func TestFoldedRound(t *testing.T) {
	for _, n := range []int{1, 2, 3, 8, 13, 64} {
		for _, p := range sample.Phantoms(n) {
			raster, e := phantom.Raster(p)
			right(t, raster, e)
			for _, d := range sample.Dirs() {
				proj, e := closed.Project(p, d)
				folded := make([]complex128, n)
				for bin, v := range right(t, proj, e).Bins {
					line := bin - sample.Origin(n, d) // the line of the cell (x, y) is Q*x - P*y
					folded[(line%n+n)%n] += v
				}
				bins, e := torus.Project(raster, d.Q, -d.P)
				check(t, "Project", n, slope{d.Q, -d.P}, right(t, bins, e), folded)
			}
		}
	}
}
