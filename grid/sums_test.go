package grid_test

import (
	"math"
	"testing"

	"penumbra/api"
	"penumbra/grid"
	"penumbra/sample"
)

type two func(a, b api.Grid) (api.Grid, api.Errno)

// answersTo: does the call answer as whole numbers do, or ErrBig where they would not fit?
func answersTo(t *testing.T, what string, got api.Grid, e api.Errno, want api.Grid, fits bool) {
	t.Helper()
	if !fits {
		refused(t, what, got, e, api.ErrBig)
		return
	}
	check(t, what, right(t, got, e), want)
}

// P5.1: sums and differences of all pairs of grids, in whole numbers.
func TestAddSub(t *testing.T) {
	for _, n := range sample.Sides() {
		for _, a := range sample.Grids(n) {
			for _, b := range sample.Grids(n) {
				got, e := grid.Add(a, b)
				want, fits := merged(a, b, pair.plus)
				answersTo(t, "Add", got, e, want, fits)
				got, e = grid.Sub(a, b)
				want, fits = merged(a, b, pair.less)
				answersTo(t, "Sub", got, e, want, fits)
			}
		}
	}
}

// factors: cells' values, small ones and great ones.
func factors() []complex128 {
	d := sample.Dice(5)
	out := []complex128{0, 1, -1, 1i, -1i, 2, -2i, 1 + 1i, 1 - 1i, 1024, 1024i, -1165, 1165 - 900i, 500 + 300i, api.MaxPart, complex(0, -api.MaxPart), complex(-api.MaxPart, api.MaxPart)}
	return append(append(out, d.List(20, d.UpTo(3))...), d.List(10, d.UpTo(2000))...)
}

// P5.1: products of grids of all kinds, in whole numbers.
func TestTimes(t *testing.T) {
	for _, n := range sample.Sides() {
		for _, g := range sample.Grids(n) {
			for _, v := range factors() {
				got, e := grid.Times(g, v)
				want, fits := merged(g, sample.Filled(n, v), pair.times)
				answersTo(t, "Times", got, e, want, fits)
			}
		}
	}
}

// P5.1: sums and differences whose parts come to just 2^20 either way, and to one beyond it, in one cell of many, wherever it stands.
func TestSumsAtTheLimit(t *testing.T) {
	const most = api.MaxPart
	for _, c := range []struct {
		a, b complex128
		want api.Errno
	}{
		{most, 0, api.OK}, {most - 1, 1, api.OK}, {1, most - 1, api.OK}, {most / 2, most / 2, api.OK}, {most, -most, api.OK}, {most, -1, api.OK},
		{most, 1, api.ErrBig}, {1, most, api.ErrBig}, {most/2 + 1, most / 2, api.ErrBig}, {most, most, api.ErrBig},
		{-most + 1, -1, api.OK}, {-most / 2, -most / 2, api.OK}, {-most, -1, api.ErrBig}, {-1, -most, api.ErrBig}, {-most, -most, api.ErrBig},
		{complex(0, most-1), 1i, api.OK}, {complex(0, most), 1i, api.ErrBig}, {1i, complex(0, most), api.ErrBig},
		{complex(0, -most+1), -1i, api.OK}, {complex(0, -most), -1i, api.ErrBig}, {-1i, complex(0, -most), api.ErrBig},
		{complex(most, -most), -1 + 1i, api.OK}, {complex(most, -most), 1i, api.OK}, {complex(most, -most), 1 + 1i, api.ErrBig}, {complex(most, -most), -1 - 1i, api.ErrBig},
	} {
		minus := complex(0-real(c.b), 0-imag(c.b))
		for _, n := range []int{1, 2, 3, 64} {
			for _, place := range []int{0, n * n / 2, n*n - 1} {
				a, rest := sample.With(sample.Numbered(n), place, c.a), sample.Filled(n, 0)
				want := sample.With(a, place, c.a+c.b)
				got, e := grid.Add(a, sample.With(rest, place, c.b))
				answersTo(t, "Add", got, e, want, c.want == api.OK)
				got, e = grid.Sub(a, sample.With(rest, place, minus))
				answersTo(t, "Sub", got, e, want, c.want == api.OK)
			}
		}
	}
}

// P5.1: products whose parts come to just 2^20 and to one beyond it; 2^20 + 1 is 17 times 61681.
func TestProductsAtTheLimit(t *testing.T) {
	const most = api.MaxPart
	for _, c := range []struct {
		a, b complex128
		want api.Errno
	}{
		{1024, 1024, api.OK}, {1024i, 1024, api.OK}, {-1024, 1024, api.OK}, {1024i, 1024i, api.OK}, {-1024i, 1024i, api.OK}, {-1024i, 1024, api.OK},
		{most, 1, api.OK}, {most, -1i, api.OK}, {complex(most, -most), 1, api.OK}, {complex(most, -most), 1i, api.OK},
		{17, 61681, api.ErrBig}, {-17, 61681, api.ErrBig}, {17i, 61681, api.ErrBig}, {17, -61681i, api.ErrBig}, {17i, 61681i, api.ErrBig}, {-17i, 61681i, api.ErrBig},
		{17, 61680, api.OK}, {-17i, 61680, api.OK},
		{1 + 1i, complex(most/2, most/2), api.OK}, {1 + 1i, complex(most/2, most/2+1), api.ErrBig}, {1 - 1i, complex(most/2, most/2), api.OK}, {1 - 1i, complex(most/2+1, most/2), api.ErrBig},
		{complex(most, most), 1 + 1i, api.ErrBig}, {complex(most, most), 1 - 1i, api.ErrBig}, {complex(most, most), complex(most, most), api.ErrBig}, {complex(most, most), complex(most, -most), api.ErrBig},
		{most, 2, api.ErrBig}, {complex(0, -most), 2, api.ErrBig}, {2, most, api.ErrBig}, {most, most, api.ErrBig},
		// A product on the way is beyond the limit, what is answered isn't.
		{1100 + 400i, 1000 + 400i, api.OK}, {1100 - 400i, 1000 - 400i, api.OK}, {1100 + 400i, 400 - 1000i, api.OK},
	} {
		for _, n := range []int{1, 2, 3, 64} {
			for _, place := range []int{0, n * n / 2, n*n - 1} {
				g := sample.With(sample.Filled(n, 0), place, c.a)
				got, e := grid.Times(g, c.b)
				want, fits := merged(g, sample.Filled(n, c.b), pair.times)
				if fits != (c.want == api.OK) {
					t.Fatalf("%v times %v: the limit is not met", c.a, c.b)
				}
				answersTo(t, "Times", got, e, want, fits)
			}
		}
	}
}

// P5.1: parts that come out as noughts are +0.
func TestNoughts(t *testing.T) {
	zero := func(n int) api.Grid { return sample.Filled(n, 0) }
	for _, n := range []int{1, 2, 3, 64} {
		for _, v := range []complex128{1, -1, 1i, -1i, -3 - 3i, -api.MaxPart, complex(0, -api.MaxPart)} {
			got, e := grid.Times(zero(n), v)
			check(t, "0 times a number", right(t, got, e), zero(n))
			got, e = grid.Times(sample.Filled(n, v), 0)
			check(t, "a number times 0", right(t, got, e), zero(n))
			got, e = grid.Sub(sample.Filled(n, v), sample.Filled(n, v))
			check(t, "a number less itself", right(t, got, e), zero(n))
			got, e = grid.Sub(zero(n), zero(n))
			check(t, "0 less 0", right(t, got, e), zero(n))
			got, e = grid.Add(sample.Filled(n, v), sample.Filled(n, complex(0-real(v), 0-imag(v))))
			check(t, "a number and its negative", right(t, got, e), zero(n))
			got, e = grid.Shift(sample.Filled(n, v), -n, 0)
			check(t, "all gone", right(t, got, e), zero(n))
		}
		for _, c := range []struct{ a, b, want complex128 }{{1, -1, -1}, {1i, 1i, -1}, {-1, 1i, -1i}, {-2, -2, 4}, {1 + 1i, 1 + 1i, 2i}, {1 + 1i, -1 + 1i, -2}} {
			got, e := grid.Times(sample.Filled(n, c.a), c.b)
			check(t, "a product with one nought", right(t, got, e), sample.Filled(n, c.want))
		}
	}
}

// P5.1: unlike sides, whatever the cells: of many cells or few, ErrArg comes ahead of ErrBig.
func TestUnlikeSides(t *testing.T) {
	most := complex(api.MaxPart, -api.MaxPart)
	for _, n := range sample.Sides() {
		for _, m := range sample.Sides() {
			if n == m {
				continue
			}
			for _, do := range []two{grid.Add, grid.Sub} {
				got, e := do(sample.Numbered(n), sample.Filled(m, 0))
				refused(t, "unlike sides", got, e, api.ErrArg)
				got, e = do(sample.Filled(n, most), sample.Filled(m, most))
				refused(t, "unlike sides and great cells", got, e, api.ErrArg)
				got, e = do(sample.Filled(n, most), sample.Filled(m, -most))
				refused(t, "unlike sides and great cells", got, e, api.ErrArg)
			}
		}
	}
}

// P5.1: what is no cell's value is no factor, ahead of what would be too great.
func TestNoFactors(t *testing.T) {
	for _, v := range sample.NoValues() {
		for _, g := range []api.Grid{sample.Filled(1, 0), sample.Numbered(2), sample.Filled(3, api.MaxPart), sample.Filled(64, 1)} {
			got, e := grid.Times(g, v)
			refused(t, "Times", got, e, api.ErrArg)
		}
	}
}

// calls: each call that answers a grid, with arguments that are right for side n, and some that are wrong.
func calls(n int) map[string]func(g api.Grid) (api.Grid, api.Errno) {
	return map[string]func(g api.Grid) (api.Grid, api.Errno){
		"Put":               func(g api.Grid) (api.Grid, api.Errno) { return grid.Put(g, 0, 0, 1) },
		"Put nowhere":       func(g api.Grid) (api.Grid, api.Errno) { return grid.Put(g, -1, g.N, 1) },
		"Put far away":      func(g api.Grid) (api.Grid, api.Errno) { return grid.Put(g, math.MaxInt, math.MinInt, 1) },
		"Put no value":      func(g api.Grid) (api.Grid, api.Errno) { return grid.Put(g, 0, 0, complex(0, math.NaN())) },
		"Add to itself":     func(g api.Grid) (api.Grid, api.Errno) { return grid.Add(g, g) },
		"Add first":         func(g api.Grid) (api.Grid, api.Errno) { return grid.Add(g, sample.Filled(n, 1)) },
		"Add second":        func(g api.Grid) (api.Grid, api.Errno) { return grid.Add(sample.Filled(n, 1), g) },
		"Add to another":    func(g api.Grid) (api.Grid, api.Errno) { return grid.Add(sample.Filled(n%64+1, 1), g) },
		"Sub from itself":   func(g api.Grid) (api.Grid, api.Errno) { return grid.Sub(g, g) },
		"Sub first":         func(g api.Grid) (api.Grid, api.Errno) { return grid.Sub(g, sample.Filled(n, 1)) },
		"Sub second":        func(g api.Grid) (api.Grid, api.Errno) { return grid.Sub(sample.Filled(n, 1), g) },
		"Sub from another":  func(g api.Grid) (api.Grid, api.Errno) { return grid.Sub(g, sample.Filled(n%64+1, 1)) },
		"Times":             func(g api.Grid) (api.Grid, api.Errno) { return grid.Times(g, 1) },
		"Times i":           func(g api.Grid) (api.Grid, api.Errno) { return grid.Times(g, 1i) },
		"Times the most":    func(g api.Grid) (api.Grid, api.Errno) { return grid.Times(g, api.MaxPart) },
		"Times no value":    func(g api.Grid) (api.Grid, api.Errno) { return grid.Times(g, 0.5) },
		"Shift":             func(g api.Grid) (api.Grid, api.Errno) { return grid.Shift(g, 1, -1) },
		"Shift not":         func(g api.Grid) (api.Grid, api.Errno) { return grid.Shift(g, 0, 0) },
		"Shift far":         func(g api.Grid) (api.Grid, api.Errno) { return grid.Shift(g, math.MinInt, math.MaxInt) },
		"Roll":              func(g api.Grid) (api.Grid, api.Errno) { return grid.Roll(g, 1, -1) },
		"Roll not":          func(g api.Grid) (api.Grid, api.Errno) { return grid.Roll(g, 0, 0) },
		"Roll far":          func(g api.Grid) (api.Grid, api.Errno) { return grid.Roll(g, math.MinInt, math.MaxInt) },
		"Mirror":            grid.Mirror,
		"Quarter":           func(g api.Grid) (api.Grid, api.Errno) { return grid.Quarter(g, 1) },
		"no Quarter":        func(g api.Grid) (api.Grid, api.Errno) { return grid.Quarter(g, 0) },
		"Quarter the least": func(g api.Grid) (api.Grid, api.Errno) { return grid.Quarter(g, math.MinInt) },
	}
}

// P5.1 and P1, rules 1, 2 and 6: a grid that isn't sound has ErrGrid ahead of every other error, and nothing beside it.
func TestUnsound(t *testing.T) {
	for _, g := range sample.NoGrids() {
		for name, do := range calls(max(1, min(g.N, 64))) {
			got, e := do(g)
			refused(t, name, got, e, api.ErrGrid)
		}
		if s, e := grid.Sum(g); e != api.ErrGrid || !sample.Agree(s, 0) {
			t.Errorf("Sum, side %d, %d cells: %v, error %d", g.N, len(g.Cells), s, e)
		}
	}
}
