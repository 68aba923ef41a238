package grid_test

import (
	"math"
	"testing"

	"penumbra/api"
	"penumbra/cx"
	"penumbra/sample"
)

// sides: the edges, and ordinary ones, odd and even.
func sides() []int { return []int{1, 2, 3, 4, 5, 8, 13, 63, 64} }

// numbered: every cell is another one, so that each place shows; none is 0.
func numbered(n int) api.Grid {
	g := api.Grid{N: n, Cells: make([]complex128, n*n)}
	for j := range g.Cells {
		g.Cells[j] = complex(float64(j+1), float64(-7*j-3))
	}
	return g
}

// filled: each cell v.
func filled(n int, v complex128) api.Grid {
	g := api.Grid{N: n, Cells: make([]complex128, n*n)}
	for j := range g.Cells {
		g.Cells[j] = v
	}
	return g
}

// with: the grid, but for one cell.
func with(g api.Grid, place int, v complex128) api.Grid {
	cells := append([]complex128(nil), g.Cells...)
	cells[place] = v
	return api.Grid{N: g.N, Cells: cells}
}

// small: whole numbers from -most to most.
func small(d *sample.Dice, most int) func() float64 {
	return func() float64 { return float64(int(d.Word()%uint64(2*most+1)) - most) }
}

// sound: grids of side n; noughts, ordinary cells, and parts of 2^20 either way.
func sound(n int) []api.Grid {
	d := sample.Dice(n + 11)
	lists := [][]complex128{make([]complex128, n*n), numbered(n).Cells}
	for _, part := range []func() float64{small(&d, 1), small(&d, 900), small(&d, api.MaxPart/2), d.Whole, d.Extreme} {
		lists = append(lists, d.List(n*n, part))
	}
	for _, v := range []complex128{api.MaxPart, -api.MaxPart, complex(api.MaxPart, -api.MaxPart), complex(-api.MaxPart, api.MaxPart), complex(0, api.MaxPart), complex(api.MaxPart/2, -api.MaxPart/2)} {
		lists = append(lists, filled(n, v).Cells)
	}
	var out []api.Grid
	for _, cells := range lists {
		out = append(out, api.Grid{N: n, Cells: cells})
	}
	return out
}

// noParts: what is no part of a cell's value.
func noParts() []float64 {
	return []float64{
		sample.MinusNought(), 0.5, -0.5, 1.5, 1 + 0x1p-52, 0x1p-1074, -0x1p-1074, api.MaxPart - 0.5,
		api.MaxPart + 1, -api.MaxPart - 1, api.MaxPart + 0.5, -api.MaxPart - 0.5, api.MaxPart + 0x1p-32, -api.MaxPart - 0x1p-32, 2 * api.MaxPart, 1 << 32, 1 << 62, 1 << 63, -1 << 63, 1 << 64, 1<<64 + 1<<20, 1e300, -math.MaxFloat64,
		math.Inf(1), math.Inf(-1), math.NaN(), math.Float64frombits(0xfff0000000000001), math.Float64frombits(0x7ff0000000000001),
	}
}

// noValues: what is no cell's value, for the sake of either part or of both.
func noValues() []complex128 {
	var out []complex128
	for _, x := range noParts() {
		out = append(out, complex(x, 0), complex(0, x), complex(x, -3), complex(7, x), complex(x, x))
	}
	return out
}

// wrongSides: sides that are none, and cells that are too many or too few.
func wrongSides() []api.Grid {
	grid := func(n, cells int) api.Grid { return api.Grid{N: n, Cells: make([]complex128, cells)} }
	out := []api.Grid{
		{}, {N: 1}, {N: 2}, {N: 64}, {N: 65}, {N: -1},
		grid(0, 0), grid(0, 1), grid(-1, 1), grid(-1, 0), grid(-2, 4), grid(65, 65*65), grid(65, 64*64), grid(66, 66*66), grid(128, 128*128), grid(2, 2), grid(64, 64),
		// Room for the missing cells is no cell.
		{N: 2, Cells: make([]complex128, 3, 4)}, {N: 1, Cells: make([]complex128, 0, 1)},
	}
	for _, n := range sides() {
		out = append(out, grid(n, n*n-1), grid(n, n*n+1), grid(n, 0), grid(-n, n*n), grid(n, 2*n*n), grid(n, (n+1)*(n+1)), grid(n+1, n*n))
	}
	// Sides whose squares go round to 0, to 1 or below it.
	for _, n := range []int{math.MinInt, math.MinInt + 1, -1 << 32, 1 << 31, 1 << 32, 3 << 32, 1<<32 + 1, 1 << 62, math.MaxInt - 1, math.MaxInt} {
		out = append(out, grid(n, 0), grid(n, 1), grid(n, 4))
	}
	return out
}

// unsound: all of them, with cells that aren't 0 among them.
func unsound() []api.Grid {
	out := wrongSides()
	for _, g := range wrongSides() {
		cells := make([]complex128, len(g.Cells))
		for j := range cells {
			cells[j] = 3 - 1i
		}
		out = append(out, api.Grid{N: g.N, Cells: cells})
	}
	for _, v := range noValues() {
		for _, n := range []int{1, 2, 3} {
			out = append(out, with(numbered(n), 0, v), with(numbered(n), n*n-1, v), with(numbered(n), n*n/2, v))
		}
	}
	for _, v := range []complex128{complex(sample.MinusNought(), 0), complex(0, math.NaN()), 0.5i, api.MaxPart + 1} {
		out = append(out, with(numbered(64), 0, v), with(numbered(64), 64*64-1, v), with(numbered(64), 64*31+5, v))
	}
	return out
}

// anyInts: ways, turns and places; some of them would go round to a place inside, times a side or beside it.
func anyInts(n int) []int {
	out := []int{math.MinInt, math.MinInt + 1, math.MinInt + n - 1, math.MinInt + n, math.MinInt + 63, -1 << 58, -1000003, -1 << 32, -2*n - 1, -n - 1, -n, -n + 1, -65, -64, -63}
	for d := -5; d <= 5; d++ {
		out = append(out, d)
	}
	return append(out, 63, 64, 65, n-1, n, n+1, 2*n, 1<<32, 999983, 1<<58, 1<<58+1, 1<<62, 1<<62+1, math.MaxInt-63, math.MaxInt-n, math.MaxInt-1, math.MaxInt)
}

// right: what a call that isn't refused answers, which is sound, bit by bit too.
func right(t *testing.T, g api.Grid, e api.Errno) api.Grid {
	t.Helper()
	if e != api.OK || g.N < 1 || g.N > 64 || len(g.Cells) != g.N*g.N {
		t.Fatalf("side %d, %d cells, error %d", g.N, len(g.Cells), e)
	}
	for j, v := range g.Cells {
		for _, x := range []float64{real(v), imag(v)} {
			if x != math.Trunc(x) || math.Abs(x) > api.MaxPart || x == 0 && math.Signbit(x) {
				t.Fatalf("side %d, at %d: %s is no cell's value", g.N, j, cx.Text(v))
			}
		}
	}
	return g
}

// check: is that the grid, bit by bit?
func check(t *testing.T, what string, got, want api.Grid) {
	t.Helper()
	if got.N != want.N || len(got.Cells) != len(want.Cells) {
		t.Fatalf("%s: side %d, %d cells, not side %d, %d cells", what, got.N, len(got.Cells), want.N, len(want.Cells))
	}
	for j := range want.Cells {
		if !sample.Agree(got.Cells[j], want.Cells[j]) {
			t.Fatalf("%s: side %d, at %d: %v, not %v", what, want.N, j, got.Cells[j], want.Cells[j])
		}
	}
}

// refused: is it that error, with nothing beside it?
func refused(t *testing.T, what string, g api.Grid, e, want api.Errno) {
	t.Helper()
	if e != want || g.N != 0 || len(g.Cells) != 0 {
		t.Fatalf("%s: side %d, %d cells, error %d, not %d", what, g.N, len(g.Cells), e, want)
	}
}
