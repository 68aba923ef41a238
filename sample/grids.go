package sample

import (
	"math"

	"penumbra/api"
)

// Numbered: every cell is another one, so that each place shows; none is 0.
func Numbered(n int) api.Grid {
	g := Filled(n, 0)
	for j := range g.Cells {
		g.Cells[j] = complex(float64(j+1), float64(-7*j-3))
	}
	return g
}

// Filled: each cell v.
func Filled(n int, v complex128) api.Grid {
	g := api.Grid{N: n, Cells: make([]complex128, n*n)}
	for j := range g.Cells {
		g.Cells[j] = v
	}
	return g
}

// With: the grid, but for one cell.
func With(g api.Grid, place int, v complex128) api.Grid {
	cells := append([]complex128(nil), g.Cells...)
	cells[place] = v
	return api.Grid{N: g.N, Cells: cells}
}

// Grids: sound ones of side n; noughts, ordinary cells, and parts of 2^20 either way.
func Grids(n int) []api.Grid {
	d := Dice(n + 11)
	lists := [][]complex128{make([]complex128, n*n), Numbered(n).Cells}
	for _, part := range []func() float64{d.UpTo(1), d.UpTo(900), d.UpTo(api.MaxPart / 2), d.Whole, d.Extreme} {
		lists = append(lists, d.List(n*n, part))
	}
	for _, v := range []complex128{api.MaxPart, -api.MaxPart, complex(api.MaxPart, -api.MaxPart), complex(-api.MaxPart, api.MaxPart), complex(0, api.MaxPart), complex(api.MaxPart/2, -api.MaxPart/2)} {
		lists = append(lists, Filled(n, v).Cells)
	}
	var out []api.Grid
	for _, cells := range lists {
		out = append(out, api.Grid{N: n, Cells: cells})
	}
	return out
}

// noParts: what is no part of a cell's value.
func noParts() []float64 {
	return []float64{
		MinusNought(), 0.5, -0.5, 1.5, 1 + 0x1p-52, 0x1p-1074, -0x1p-1074, api.MaxPart - 0.5,
		api.MaxPart + 1, -api.MaxPart - 1, api.MaxPart + 0.5, -api.MaxPart - 0.5, api.MaxPart + 0x1p-32, -api.MaxPart - 0x1p-32, 2 * api.MaxPart, 1 << 32, 1 << 62, 1 << 63, -1 << 63, 1 << 64, 1<<64 + 1<<20, 1e300, -math.MaxFloat64,
		math.Inf(1), math.Inf(-1), math.NaN(), math.Float64frombits(0xfff0000000000001), math.Float64frombits(0x7ff0000000000001),
	}
}

// NoValues: what is no cell's value, for the sake of either part or of both.
func NoValues() []complex128 {
	var out []complex128
	for _, x := range noParts() {
		out = append(out, complex(x, 0), complex(0, x), complex(x, -3), complex(7, x), complex(x, x))
	}
	return out
}

// NoFields: sides that are none, and cells that are too many or too few.
func NoFields() []api.Grid {
	grid := func(n, cells int) api.Grid { return api.Grid{N: n, Cells: make([]complex128, cells)} }
	out := []api.Grid{
		{}, {N: 1}, {N: 2}, {N: 64}, {N: 65}, {N: -1},
		grid(0, 0), grid(0, 1), grid(-1, 1), grid(-1, 0), grid(-2, 4), grid(65, 65*65), grid(65, 64*64), grid(66, 66*66), grid(128, 128*128), grid(2, 2), grid(64, 64),
		// Room for the missing cells is no cell.
		{N: 2, Cells: make([]complex128, 3, 4)}, {N: 1, Cells: make([]complex128, 0, 1)},
	}
	for _, n := range Sides() {
		out = append(out, grid(n, n*n-1), grid(n, n*n+1), grid(n, 0), grid(-n, n*n), grid(n, 2*n*n), grid(n, (n+1)*(n+1)), grid(n+1, n*n))
	}
	// Sides whose squares go round to 0, to 1 or below it.
	for _, n := range append(Ends(), 3<<32) {
		out = append(out, grid(n, 0), grid(n, 1), grid(n, 4))
	}
	return out
}

// NoGrids: those that aren't sound, with cells that aren't 0 among them.
func NoGrids() []api.Grid {
	out := NoFields()
	for _, g := range NoFields() {
		cells := make([]complex128, len(g.Cells))
		for j := range cells {
			cells[j] = 3 - 1i
		}
		out = append(out, api.Grid{N: g.N, Cells: cells})
	}
	for _, v := range NoValues() {
		for _, n := range []int{1, 2, 3} {
			out = append(out, With(Numbered(n), 0, v), With(Numbered(n), n*n-1, v), With(Numbered(n), n*n/2, v))
		}
	}
	for _, v := range []complex128{complex(MinusNought(), 0), complex(0, math.NaN()), 0.5i, api.MaxPart + 1} {
		out = append(out, With(Numbered(64), 0, v), With(Numbered(64), 64*64-1, v), With(Numbered(64), 64*31+5, v))
	}
	return out
}
