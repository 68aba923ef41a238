package torus_test

import (
	"math"
	"testing"

	"penumbra/api"
	"penumbra/sample"
	"penumbra/torus"
)

func four() api.Grid { return api.Grid{N: 2, Cells: []complex128{1, 2, 3, 4}} }

// P12.1: the chapter's examples.
func TestExamples(t *testing.T) {
	for s, want := range map[slope][]complex128{{1, 0}: {4, 6}, {0, 1}: {3, 7}, {1, 1}: {5, 5}, {0, 0}: {10, 0}, {3, -2}: {4, 6}} {
		bins, e := torus.Project(four(), s.a, s.b)
		check(t, "Project", 2, s, right(t, bins, e), want)
		bins, e = torus.Slice(four(), s.a, s.b)
		check(t, "Slice", 2, s, right(t, bins, e), want)
	}
	if bound, e := torus.Bound(4); right(t, bound, e) != 0x1p-20 {
		t.Errorf("Bound(4): %v", bound)
	}
	bins, e := torus.Slice(sample.Filled(3, 0), 1, 1)
	refused(t, "Slice of side 3", len(bins) == 0, e, api.ErrLen)
}

// P12.1: projections that are written out; parts that cancel out are +0, and so is a bin in which no cell lies.
func TestProjectWrittenOut(t *testing.T) {
	nine := api.Grid{N: 3, Cells: []complex128{1, 2 - 1i, 3, 4, 5i, 6, 7, -8, 9 + 9i}}
	waste := api.Grid{N: 3, Cells: []complex128{1, -1, 0, -1, 1 - 7i, 7i, 2, -2, 0}}
	sixteen := api.Grid{N: 4, Cells: []complex128{1, 2, 3, 4, 5i, 6i, 7i, 8i, -9, -10, -11, -12, 13, 14, 15, -16i}}
	for _, c := range []struct {
		g    api.Grid
		s    slope
		want []complex128
	}{
		{api.Grid{N: 1, Cells: []complex128{5 - 3i}}, slope{0, 0}, []complex128{5 - 3i}},
		{api.Grid{N: 1, Cells: []complex128{5 - 3i}}, slope{math.MinInt, 7}, []complex128{5 - 3i}},
		{nine, slope{1, 0}, []complex128{12, -6 + 4i, 18 + 9i}},
		{nine, slope{0, 1}, []complex128{6 - 1i, 10 + 5i, 8 + 9i}},
		{nine, slope{1, 1}, []complex128{-1, 15 + 8i, 10 + 5i}},
		{nine, slope{1, 2}, []complex128{10 + 14i, 15 - 1i, -1}},
		{nine, slope{2, 1}, []complex128{10 + 14i, -1, 15 - 1i}},
		{nine, slope{-1, 1}, []complex128{10 + 14i, -1, 15 - 1i}},
		{nine, slope{math.MaxInt, 0}, []complex128{12, -6 + 4i, 18 + 9i}},
		{nine, slope{math.MinInt, -3}, []complex128{12, -6 + 4i, 18 + 9i}},
		{waste, slope{0, 1}, []complex128{0, 0, 0}},
		{waste, slope{1, 0}, []complex128{2, -2 - 7i, 7i}},
		{waste, slope{0, 0}, []complex128{0, 0, 0}},
		{sixteen, slope{2, 0}, []complex128{12 + 12i, 0, -2 - 2i, 0}},
		{sixteen, slope{2, 2}, []complex128{-2 - 2i, 0, 12 + 12i, 0}},
		{sixteen, slope{1, 3}, []complex128{-10 - 10i, 3 + 7i, 8 + 8i, 9 + 5i}},
		{sixteen, slope{math.MaxInt, 1}, []complex128{-10 - 10i, 9 + 5i, 8 + 8i, 3 + 7i}},
		{sixteen, slope{math.MaxInt, math.MaxInt - 1}, []complex128{7 + 7i, 6 + 6i, 5 + 5i, -8 - 8i}},
	} {
		bins, e := torus.Project(c.g, c.s.a, c.s.b)
		check(t, "Project", c.g.N, c.s, right(t, bins, e), c.want)
	}
}

// P12.1: the greatest sum there is, either way.
func TestProjectGreatest(t *testing.T) {
	want := make([]complex128, 64)
	want[0] = complex(1<<32, -1<<32)
	bins, e := torus.Project(sample.Filled(64, complex(api.MaxPart, -api.MaxPart)), 0, 64)
	check(t, "Project", 64, slope{0, 64}, right(t, bins, e), want)
}

// P12.1: grids of every kind and side, along numbers of every kind, counted cell by cell.
func TestProject(t *testing.T) {
	for _, n := range append(powers(), others()...) {
		for _, s := range slopes(n) {
			g := sample.Numbered(n)
			if n > 16 && s.a != s.b && s.a%5 != 0 {
				continue // the counts take long
			}
			bins, e := torus.Project(g, s.a, s.b)
			check(t, "Project", n, s, right(t, bins, e), projected(g, s))
		}
		for k, g := range grids(n) {
			for at, s := range someSlopes(n) {
				if n > 16 && (at+k)%4 != 0 {
					continue
				}
				bins, e := torus.Project(g, s.a, s.b)
				check(t, "Project", n, s, right(t, bins, e), projected(g, s))
			}
		}
	}
}

// P12.1: one cell alone shows in one bin alone.
func TestProjectOneCell(t *testing.T) {
	for _, n := range []int{1, 2, 3, 4, 7} {
		for place := range n * n {
			g := sample.With(sample.Filled(n, 0), place, -3i)
			for _, s := range append(allSlopes(n), someSlopes(n)...) {
				want := make([]complex128, n)
				want[reached(n, s, place%n, place/n)] = -3i
				bins, e := torus.Project(g, s.a, s.b)
				check(t, "Project", n, s, right(t, bins, e), want)
			}
		}
	}
}

// P12.1: Slice and Prove by the calls that the chapter names for them, bit by bit.
func TestSliceAndProve(t *testing.T) {
	for _, n := range powers() {
		for k, g := range grids(n) {
			for at, s := range someSlopes(n) {
				if n > 16 && (at+k)%4 != 0 {
					continue
				}
				bins, e := torus.Slice(g, s.a, s.b)
				check(t, "Slice", n, s, right(t, bins, e), sliced(g, s))
				far, e := torus.Prove(g, s.a, s.b)
				if want := proved(g, s); !sample.AgreePart(right(t, far, e), want) {
					t.Fatalf("Prove, side %d, along %v: %v, not %v", n, s, far, want)
				}
			}
		}
	}
}

// P12.1: what Prove tells, as it was worked out by another program in another language.
func TestProveBits(t *testing.T) {
	for _, c := range []struct {
		n    int
		s    slope
		want float64
	}{
		{2, slope{1, 1}, 0},
		{4, slope{1, 3}, 0},
		{8, slope{1, 0}, 0x1p-34},
		{8, slope{1, 1}, 0x1p-35},
		{8, slope{3, -2}, 0x1.8p-36},
		{8, slope{0, 0}, 0},
		{16, slope{1, 0}, 0x1p-29},
		{16, slope{5, 3}, 0x1p-29},
		{16, slope{8, 4}, 0},
		{32, slope{1, 31}, 0x1.6p-27},
		{32, slope{7, -12}, 0x1.2p-27},
		{64, slope{1, 0}, 0x1.8p-26},
		{64, slope{0, 1}, 0},
		{64, slope{-7, 22}, 0x1p-25},
		{64, slope{math.MaxInt, math.MinInt + 3}, 0x1.8p-26},
		{64, slope{32, 32}, 0},
	} {
		g := sample.Filled(c.n, 0)
		for j := range g.Cells {
			g.Cells[j] = complex(float64((j*j*37+11*j)%2097143-1048571), float64((j*j*j+5)%2097143-1048571))
		}
		if far, e := torus.Prove(g, c.s.a, c.s.b); right(t, far, e) != c.want {
			t.Errorf("side %d, along %v: %v, not %v", c.n, c.s, far, c.want)
		}
	}
}

// P12.1: Bound of every side, and of what is none.
func TestBound(t *testing.T) {
	wants := map[int]float64{1: 0x1p-24, 2: 0x1p-22, 4: 0x1p-20, 8: 0x1p-18, 16: 0x1p-16, 32: 0x1p-14, 64: 0x1p-12}
	numbers := append(sample.Ends(), sample.NoSides()...)
	for n := -130; n <= 4200; n++ {
		numbers = append(numbers, n)
	}
	for _, n := range numbers {
		bound, e := torus.Bound(n)
		if want, ok := wants[n]; ok && right(t, bound, e) != want {
			t.Errorf("%d: %v, not %v", n, bound, want)
		} else if !ok {
			refused(t, "Bound of no side", bound == 0, e, api.ErrLen)
		}
	}
}

// P12.1: what is no sound grid is told by all, ahead of a side that the transform doesn't take.
func TestNoGrids(t *testing.T) {
	for _, g := range sample.NoGrids() {
		for _, s := range []slope{{1, 1}, {0, 0}, {g.N, -1}, {math.MinInt, math.MaxInt}} {
			bins, e := torus.Project(g, s.a, s.b)
			refused(t, "Project of no sound grid", len(bins) == 0, e, api.ErrGrid)
			bins, e = torus.Slice(g, s.a, s.b)
			refused(t, "Slice of no sound grid", len(bins) == 0, e, api.ErrGrid)
			far, e := torus.Prove(g, s.a, s.b)
			refused(t, "Prove of no sound grid", far == 0, e, api.ErrGrid)
		}
	}
}

// P12.1: of a sound grid whose side is no power of two there is a projection, but no transform.
func TestNoPowers(t *testing.T) {
	for n := 1; n <= api.MaxSide; n++ {
		if n&(n-1) == 0 {
			continue
		}
		for _, g := range []api.Grid{sample.Filled(n, 0), sample.Numbered(n), sample.Filled(n, complex(-api.MaxPart, api.MaxPart))} {
			for _, s := range []slope{{0, 0}, {1, -n}, {math.MaxInt, math.MinInt}} {
				bins, e := torus.Project(g, s.a, s.b)
				if len(right(t, bins, e)) != n {
					t.Fatalf("side %d: %d bins", n, len(bins))
				}
				bins, e = torus.Slice(g, s.a, s.b)
				refused(t, "Slice", len(bins) == 0, e, api.ErrLen)
				far, e := torus.Prove(g, s.a, s.b)
				refused(t, "Prove", far == 0, e, api.ErrLen)
			}
		}
	}
}
