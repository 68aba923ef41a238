package ray_test

import (
	"testing"

	"penumbra/api"
	"penumbra/grid"
	"penumbra/ray"
	"penumbra/sample"
)

// P9.2: the bins of a projection add up to the sum of the cells.
func TestBinsAddUp(t *testing.T) {
	for _, n := range sample.Sides() {
		for _, g := range sample.Grids(n) {
			sum, e := grid.Sum(g)
			right(t, sum, e)
			for _, d := range append(sample.Dirs(), sample.Wheel()[n:n+10]...) {
				p, e := ray.Project(g, d)
				if got := total(right(t, p, e).Bins).number(); got != sum {
					t.Fatalf("side %d, along %v: %v, not %v", n, d, got, sum)
				}
			}
		}
	}
}

// P9.2: the projection of a sum of grids is the sum of the projections, bit by bit.
func TestSumsOfGrids(t *testing.T) {
	added := 0
	for _, n := range []int{1, 2, 3, 8, 13} {
		for _, a := range sample.Grids(n) {
			for _, b := range sample.Grids(n) {
				c, e := grid.Add(a, b)
				if e != api.OK {
					continue
				}
				added++
				for _, d := range sample.Dirs() {
					of, e := ray.Project(a, d)
					right(t, of, e)
					other, e := ray.Project(b, d)
					right(t, other, e)
					both, e := ray.Project(c, d)
					for bin, v := range right(t, both, e).Bins {
						if want := pairOf(of.Bins[bin]).plus(pairOf(other.Bins[bin])).number(); !sample.Agree(v, want) {
							t.Fatalf("side %d, along %v, bin %d: %v, not %v", n, d, bin, v, want)
						}
					}
				}
			}
		}
	}
	if added < 200 {
		t.Errorf("%d sums that were not refused are too few to tell", added)
	}
}

// P9.2: the projection of a grid times a number is the projection times it, bit by bit.
func TestGridsTimes(t *testing.T) {
	multiplied := 0
	for _, n := range []int{1, 2, 3, 8, 13, 64} {
		for _, g := range sample.Grids(n) {
			for _, times := range []complex128{0, 1, -1, 1i, -1i, 2, -3 + 5i, 1000i, 1 - 1165i, api.MaxPart, -api.MaxPart} {
				c, e := grid.Times(g, times)
				if e != api.OK {
					continue
				}
				multiplied++
				for _, d := range sample.Dirs()[:12] {
					once, e := ray.Project(g, d)
					right(t, once, e)
					many, e := ray.Project(c, d)
					for bin, v := range right(t, many, e).Bins {
						if want := pairOf(once.Bins[bin]).times(pairOf(times)).number(); !sample.Agree(v, want) {
							t.Fatalf("side %d, along %v, times %v, bin %d: %v, not %v", n, d, times, bin, v, want)
						}
					}
				}
			}
		}
	}
	if multiplied < 200 {
		t.Errorf("%d products that were not refused are too few to tell", multiplied)
	}
}

// P9.3: bins held against a projection tell what their spread tells, held against the grid.
func TestTheOtherWay(t *testing.T) {
	dice := sample.Dice(93)
	for _, n := range sample.Sides() {
		for _, d := range append(sample.Dirs(), sample.Wheel()[2*n:2*n+20]...) {
			many := bins(n, d)
			for _, most := range []int{1, 16, 255, 256} {
				g := api.Grid{N: n, Cells: dice.List(n*n, dice.UpTo(most))}
				otherWay(t, g, api.Proj{Dir: d, Bins: dice.List(many, dice.UpTo(most))})
			}
			// The greatest sums there are, with each sign.
			for _, v := range []complex128{256 + 256i, -256 + 256i, complex(256, -256), 256, -256i} {
				otherWay(t, sample.Filled(n, v), api.Proj{Dir: d, Bins: striped(many, v)})
			}
			otherWay(t, sample.Filled(n, 256-256i), api.Proj{Dir: d, Bins: striped(many, 256+256i)})
		}
	}
}

// striped: v, but for the other sign at each third place.
func striped(many int, v complex128) []complex128 {
	out := make([]complex128, many)
	for bin := range out {
		out[bin] = v
		if bin%3 == 2 {
			out[bin] = complex(0-real(v), 0-imag(v))
		}
	}
	return out
}

func otherWay(t *testing.T, g api.Grid, p api.Proj) {
	t.Helper()
	seen, e := ray.Project(g, p.Dir)
	one, e2 := ray.Dot(right(t, seen, e).Bins, p.Bins)
	field, e := ray.Spread(g.N, p)
	other, e3 := ray.Dot(g.Cells, right(t, field, e).Cells)
	if right(t, one, e2) != right(t, other, e3) {
		t.Fatalf("side %d, along %v: %v by bins, %v by cells", g.N, p.Dir, one, other)
	}
	if want := exactly(seen.Bins, p.Bins); one != want {
		t.Fatalf("side %d, along %v: %v, not %v", g.N, p.Dir, one, want)
	}
}

// exactly: Dot in whole numbers.
func exactly(a, b []complex128) complex128 {
	var sum pair
	for i := range a {
		turned := pairOf(b[i])
		turned.q = -turned.q
		sum = sum.plus(pairOf(a[i]).times(turned))
	}
	return sum.number()
}
