package ray_test

import (
	"math"
	"testing"

	"penumbra/api"
	"penumbra/dir"
	"penumbra/ray"
	"penumbra/sample"
)

func four() api.Grid { return api.Grid{N: 2, Cells: []complex128{1, 2, 3, 4}} }

// P9.1: the chapter's examples.
func TestExamples(t *testing.T) {
	for d, want := range map[api.Dir][]complex128{{P: 1}: {7, 3}, {Q: 1}: {4, 6}, {P: 1, Q: 1}: {3, 5, 2}, {P: -1, Q: 1}: {1, 5, 4}} {
		if p, e := ray.Project(four(), d); !sample.SameProj(right(t, p, e), api.Proj{Dir: d, Bins: want}) {
			t.Errorf("along %v: %v", d, p)
		}
	}
	p := api.Proj{Dir: api.Dir{P: 1, Q: 1}, Bins: []complex128{7, 8, 9}}
	if f, e := ray.Spread(2, p); !alikeFields(right(t, f, e), api.Grid{N: 2, Cells: []complex128{8, 9, 7, 8}}) {
		t.Errorf("Spread: %v", f)
	}
	f, e := ray.Spread(2, api.Proj{Dir: p.Dir, Bins: p.Bins[:2]})
	refused(t, "Spread of two bins", noGrid(f), e, api.ErrBins)
	if v, e := ray.Dot([]complex128{1i}, []complex128{1i}); right(t, v, e) != 1 {
		t.Errorf("Dot: %v", v)
	}
}

// P9.1: projections that are written out, with bins on which no cell lies; parts that cancel out are +0.
func TestProjectWrittenOut(t *testing.T) {
	nine := api.Grid{N: 3, Cells: []complex128{1, 2 - 1i, 3, 4, 5i, 6, 7, -8, 9 + 9i}}
	waste := api.Grid{N: 3, Cells: []complex128{1, -1, 0, -1, 1 - 7i, 7i, 2, -2, 0}}
	for _, c := range []struct {
		g    api.Grid
		d    api.Dir
		want []complex128
	}{
		{api.Grid{N: 1, Cells: []complex128{5 - 3i}}, api.Dir{P: -16, Q: 15}, []complex128{5 - 3i}},
		{nine, api.Dir{P: 1}, []complex128{8 + 9i, 10 + 5i, 6 - 1i}},
		{nine, api.Dir{Q: 1}, []complex128{12, -6 + 4i, 18 + 9i}},
		{nine, api.Dir{P: 1, Q: 2}, []complex128{7, 4, -7, 5i, 11 + 8i, 6, 3}},
		{nine, api.Dir{P: -1, Q: 2}, []complex128{1, 4, 9 - 1i, 5i, -5, 6, 9 + 9i}},
		{nine, api.Dir{P: 2, Q: 3}, []complex128{7, 0, 4, -8, 1, 5i, 9 + 9i, 2 - 1i, 6, 0, 3}},
		{nine, api.Dir{P: -2, Q: 3}, []complex128{1, 0, 4, 2 - 1i, 7, 5i, 3, -8, 6, 0, 9 + 9i}},
		{four(), api.Dir{P: 16, Q: 1}, []complex128{3, 4, 0, 0, 0, 0, 0, 0, 0, 0, 0, 0, 0, 0, 0, 0, 1, 2}},
		{waste, api.Dir{P: 1}, []complex128{0, 0, 0}},
		{waste, api.Dir{Q: 1}, []complex128{2, -2 - 7i, 7i}},
		{waste, api.Dir{P: 1, Q: 1}, []complex128{2, -3, 2 - 7i, -1 + 7i, 0}},
		{sample.Filled(3, 0), api.Dir{P: 1, Q: 1}, make([]complex128, 5)},
	} {
		if p, e := ray.Project(c.g, c.d); !sample.SameProj(right(t, p, e), api.Proj{Dir: c.d, Bins: c.want}) {
			t.Errorf("along %v: %v, not %v", c.d, p.Bins, c.want)
		}
	}
	all := sample.Filled(64, complex(api.MaxPart, -api.MaxPart))
	if p, e := ray.Project(all, api.Dir{P: 1, Q: 1}); right(t, p, e).Bins[63] != complex(1<<26, -1<<26) {
		t.Errorf("the greatest line: %v", p.Bins[63])
	}
}

// P9.1: grids of every kind, along directions of every kind, by the rules.
func TestProject(t *testing.T) {
	for _, n := range sample.Sides() {
		for _, g := range sample.Grids(n) {
			for _, d := range sample.Dirs() {
				if p, e := ray.Project(g, d); !sample.SameProj(right(t, p, e), projected(g, d)) {
					t.Fatalf("side %d, along %v: not the sums of its lines", n, d)
				}
			}
		}
	}
	for n := 1; n <= 6; n++ {
		for _, d := range sample.Wheel() {
			g := sample.Numbered(n)
			if p, e := ray.Project(g, d); !sample.SameProj(right(t, p, e), projected(g, d)) {
				t.Fatalf("side %d, along %v: %v", n, d, p.Bins)
			}
		}
	}
}

// P9.1: cell by cell, each on the line that layer 6 tells.
func TestProjectByLines(t *testing.T) {
	for _, n := range sample.Sides() {
		g := sample.Grids(n)[3]
		for _, d := range append(sample.Dirs(), sample.Wheel()[:20]...) {
			many, e := dir.Bins(n, d)
			want := make([]pair, right(t, many, e))
			for cell, v := range g.Cells {
				bin, e := dir.Index(n, d, cell%n, cell/n)
				want[right(t, bin, e)] = want[bin].plus(pairOf(v))
			}
			p, e := ray.Project(g, d)
			if len(right(t, p, e).Bins) != many {
				t.Fatalf("side %d, along %v: %d bins, not %d", n, d, len(p.Bins), many)
			}
			for bin, v := range p.Bins {
				if !sample.Agree(v, want[bin].number()) {
					t.Fatalf("side %d, along %v, bin %d: %v, not %v", n, d, bin, v, want[bin])
				}
			}
		}
	}
}

// P9.1: one cell alone shows in its line's bin alone.
func TestProjectOneCell(t *testing.T) {
	for _, n := range []int{1, 2, 5, 9} {
		for _, d := range sample.Dirs() {
			for cell := range n * n {
				p, e := ray.Project(sample.With(sample.Filled(n, 0), cell, -3i), d)
				bin, _ := dir.Index(n, d, cell%n, cell/n)
				want := make([]complex128, bins(n, d))
				want[bin] = -3i
				if !sample.SameProj(right(t, p, e), api.Proj{Dir: d, Bins: want}) {
					t.Fatalf("side %d, along %v, cell %d: %v", n, d, cell, p.Bins)
				}
			}
		}
	}
}

// P9.1: what is no sound grid is told ahead of what is no direction.
func TestProjectRefused(t *testing.T) {
	for i, g := range sample.NoGrids() {
		dirs, none := sample.Dirs(), sample.NoDirs()
		for _, d := range []api.Dir{{P: 1}, {}, dirs[i%len(dirs)], none[i%len(none)]} {
			p, e := ray.Project(g, d)
			refused(t, "Project of no grid", noProj(p), e, api.ErrGrid)
		}
	}
	for _, n := range sample.Sides() {
		for _, d := range sample.NoDirs() {
			p, e := ray.Project(sample.Numbered(n), d)
			refused(t, "Project along no direction", noProj(p), e, api.ErrDir)
		}
	}
}

// P9.1: bins of any values, with all their bits.
func TestSpread(t *testing.T) {
	for _, n := range sample.Sides() {
		for _, d := range sample.Dirs() {
			for _, list := range anyBins(bins(n, d)) {
				p := api.Proj{Dir: d, Bins: list}
				if f, e := ray.Spread(n, p); !alikeFields(right(t, f, e), spread(n, p)) {
					t.Fatalf("side %d, along %v: not the bins of the cells' lines", n, d)
				}
			}
		}
	}
	for n := 1; n <= 6; n++ {
		for _, d := range sample.Wheel() {
			all := anyBins(bins(n, d))
			p := api.Proj{Dir: d, Bins: all[len(all)-1]}
			if f, e := ray.Spread(n, p); !alikeFields(right(t, f, e), spread(n, p)) {
				t.Fatalf("side %d, along %v: %v", n, d, f)
			}
		}
	}
}

// P9.1: each cell has the bin that layer 6's Index tells, and bins on which no cell lies show nowhere.
func TestSpreadByLines(t *testing.T) {
	for _, n := range sample.Sides() {
		for _, d := range append(sample.Dirs(), sample.Wheel()[:20]...) {
			all := anyBins(bins(n, d))
			numbers := all[len(all)-1]
			f, e := ray.Spread(n, api.Proj{Dir: d, Bins: numbers})
			for cell, v := range right(t, f, e).Cells {
				if bin, _ := dir.Index(n, d, cell%n, cell/n); v != numbers[bin] {
					t.Fatalf("side %d, along %v, cell %d: %v, not bin %d", n, d, cell, v, bin)
				}
			}
		}
	}
	nan, minus := math.Float64frombits(0xfff4000000000123), sample.MinusNought()
	list := []complex128{complex(nan, minus), complex(math.Inf(-1), 0.5), complex(minus, nan)}
	want := api.Grid{N: 2, Cells: []complex128{list[1], list[2], list[0], list[1]}}
	if f, e := ray.Spread(2, api.Proj{Dir: api.Dir{P: 1, Q: 1}, Bins: list}); !alikeFields(right(t, f, e), want) {
		t.Errorf("written out: %v", f)
	}
}

// P9.1: a side that is none is told ahead of what is no direction, that ahead of bins that are too many or too few.
func TestSpreadRefused(t *testing.T) {
	one := api.Dir{P: 1}
	for _, n := range sample.NoSides() {
		for _, d := range []api.Dir{one, {P: 3, Q: 2}, {}, {P: 2, Q: 2}, {P: math.MinInt, Q: math.MaxInt}} {
			for _, list := range [][]complex128{nil, {}, make([]complex128, 1), make([]complex128, 65), make([]complex128, 64)} {
				f, e := ray.Spread(n, api.Proj{Dir: d, Bins: list})
				refused(t, "Spread over no side", noGrid(f), e, api.ErrArg)
			}
		}
	}
	for _, n := range sample.Sides() {
		for _, d := range sample.NoDirs() {
			for _, many := range []int{0, 1, n, 2*n - 1} {
				f, e := ray.Spread(n, api.Proj{Dir: d, Bins: make([]complex128, many)})
				refused(t, "Spread along no direction", noGrid(f), e, api.ErrDir)
			}
		}
		for _, d := range sample.Dirs() {
			many := bins(n, d)
			for _, wrong := range []int{0, 1, many - 1, many + 1, 2 * many, n * n, 4096} {
				if wrong == many {
					continue
				}
				// Room for the missing bins is no bin.
				f, e := ray.Spread(n, api.Proj{Dir: d, Bins: make([]complex128, wrong, 8192)})
				refused(t, "Spread of so many bins", noGrid(f), e, api.ErrBins)
			}
			f, e := ray.Spread(n, api.Proj{Dir: d})
			refused(t, "Spread of no bins", noGrid(f), e, api.ErrBins)
		}
	}
}
