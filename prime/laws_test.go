package prime_test

import (
	"testing"

	"penumbra/api"
	"penumbra/grid"
	"penumbra/phantom"
	"penumbra/prime"
	"penumbra/sample"
)

// P15.2: Back of Forward is the grid, at every prime side.
func TestThereAndBack(t *testing.T) {
	d := sample.Dice(152)
	for _, p := range primes() {
		all := grids(p)
		for range 20 {
			all = append(all, api.Grid{N: p, Cells: d.List(p*p, d.Whole)}, api.Grid{N: p, Cells: d.List(p*p, d.Extreme)})
		}
		for _, g := range all {
			leadsBack(t, forward(t, g), g)
		}
	}
}

// P15.2: every cell alone leads back to its place.
func TestOneCellThereAndBack(t *testing.T) {
	for _, p := range primes()[:8] {
		for place := range p * p {
			g := sample.With(sample.Filled(p, 0), place, complex(-7, float64(place)))
			leadsBack(t, forward(t, g), g)
		}
	}
}

// P15.2: what Back tells is sound, and Forward tells the lists again, whatever lists they are.
func TestBackAndThere(t *testing.T) {
	d := sample.Dice(153)
	for _, p := range primes() {
		told, rounds := 0, 60+2000/p
		for k := range rounds {
			l := forward(t, api.Grid{N: p, Cells: d.List(p*p, []func() float64{d.UpTo(2), d.UpTo(api.MaxPart - 9), d.Whole, d.Extreme}[k%4])})
			for range k % 5 { // most of these are lists of another grid
				m, from, to := int(d.Word()%uint64(p+1)), int(d.Word()%uint64(p)), int(d.Word()%uint64(p))
				l = moved(l, m, from, to, complex(float64(p)*d.UpTo(1)(), float64(p)*d.UpTo(1)()))
			}
			if k%3 == 0 {
				l = added(l, int(d.Word()%uint64(p+1)), int(d.Word()%uint64(p)), complex(d.UpTo(1)(), float64(p)*d.UpTo(1)()))
			}
			g, e := prime.Back(l)
			if e != api.OK {
				refused(t, "Back", g.N == 0 && len(g.Cells) == 0, e, api.ErrClash)
				continue
			}
			told++
			if grid.Check(g) != api.OK || g.N != p || !sameLists(forward(t, g), l) {
				t.Fatalf("side %d, lists number %d: not sound, or with other lists", p, k)
			}
		}
		if told < rounds/4 || told > rounds*3/4 {
			t.Errorf("side %d: the samples are too much alike: %d of %d are told", p, told, rounds)
		}
	}
}

// P15.2, P2: projections of prime side lead back to a phantom's raster.
func TestBackToTheRaster(t *testing.T) {
	for _, p := range primes() {
		for _, thing := range sample.Phantoms(p) {
			raster, e := phantom.Raster(thing)
			right(t, raster, e)
			leadsBack(t, forward(t, raster), raster)
		}
	}
}

// P15.3: two unlike cells lie together on just one line, all pairs of all primes.
func TestPairsOfCells(t *testing.T) {
	for _, p := range primes() {
		together := make([]uint8, p*p*p*p)
		for m := range p + 1 {
			for at := range p {
				cells, e := prime.Line(p, m, at)
				for _, a := range right(t, cells, e) {
					for _, b := range cells {
						together[(a.Y*p+a.X)*p*p+b.Y*p+b.X]++
					}
				}
			}
		}
		for pair, lines := range together {
			a, b := pair/(p*p), pair%(p*p)
			if a != b && lines != 1 {
				t.Fatalf("%d: cells %d and %d lie together on %d lines", p, a, b, lines)
			}
			if a == b && int(lines) != p+1 {
				t.Fatalf("%d: cell %d lies on %d lines", p, a, lines)
			}
		}
	}
}

// P15.3: every list adds up to the sum of the cells.
func TestListsAddUp(t *testing.T) {
	for _, p := range primes() {
		for _, g := range grids(p) {
			sum, e := grid.Sum(g)
			right(t, sum, e)
			for m, list := range forward(t, g) {
				if len(list) != p || total(list).number() != sum {
					t.Fatalf("side %d, list %d: %v, not %v", p, m, total(list).number(), sum)
				}
			}
		}
	}
}

// P15.1: what Forward tells of a line is the sum of the cells that Line tells of it.
func TestSumsOfLines(t *testing.T) {
	for _, p := range primes() {
		g := sample.Grids(p)[5]
		for m, list := range forward(t, g) {
			for at, got := range list {
				cells, e := prime.Line(p, m, at)
				var sum pair
				for _, c := range right(t, cells, e) {
					sum = sum.plus(pairOf(g.Cells[c.Y*p+c.X]))
				}
				if got != sum.number() {
					t.Fatalf("side %d, line %d, %d: %v, not %v", p, m, at, got, sum.number())
				}
			}
		}
	}
}
