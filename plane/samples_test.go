package plane_test

import (
	"math"
	"testing"

	"penumbra/api"
	"penumbra/cx"
	"penumbra/sample"
)

// sides: every one there is.
func sides() []int { return []int{1, 2, 4, 8, 16, 32, 64} }

// fields: of side n, with the cells of every list that give tells of so many cells.
func fields(n int, give func(n int) [][]complex128) []api.Grid {
	var out []api.Grid
	for _, cells := range give(n * n) {
		out = append(out, api.Grid{N: n, Cells: cells})
	}
	return out
}

// wrong: fields that aren't right.
func wrong() []api.Grid {
	field := func(n, cells int) api.Grid { return api.Grid{N: n, Cells: make([]complex128, cells)} }
	out := []api.Grid{
		{}, {N: 1}, {N: 2}, {N: 64},
		field(2, 3), field(1, 0), field(1, 2), field(4, 15), field(4, 17), field(4, 4), field(64, 64), field(32, 64*64), field(64, 32*32),
		field(0, 0), field(0, 1), field(-1, 1), field(-1, 0), field(-2, 4), field(-64, 64*64),
		// Room for the missing cells is no cell.
		{N: 2, Cells: make([]complex128, 3, 4)}, {N: 1, Cells: make([]complex128, 0, 1)},
	}
	for _, n := range sides() {
		out = append(out, field(n, n*n-1), field(n, n*n+1), field(n, 0), field(-n, n*n), field(n, 4*n*n))
	}
	for n := 3; n <= 130; n++ {
		if n > 64 || n&(n-1) != 0 {
			out = append(out, field(n, n*n))
		}
	}
	for _, n := range []int{256, 512, 1024} {
		out = append(out, field(n, n*n))
	}
	// Sides whose squares go round to 0, to 1 or below it.
	for _, n := range []int{math.MinInt, math.MinInt + 1, -1 << 32, 1 << 31, 1 << 32, 3 << 32, 1<<32 + 1, 1 << 62, math.MaxInt - 1, math.MaxInt} {
		out = append(out, field(n, 0), field(n, 1), field(n, 4))
	}
	return out
}

// slopes: any int may be one.
func slopes() []int {
	return []int{math.MinInt, math.MinInt + 1, math.MinInt + 63, -1<<62 - 3, -1 << 58, -129, -65, -64, -63, -33, -3, -2, -1, 0, 1, 2, 3, 5, 31, 32, 33, 63, 64, 65, 66, 1000003, 1<<57 + 1, 1<<58 + 1, math.MaxInt/63 + 2, 1<<62 + 7, math.MaxInt - 1, math.MaxInt}
}

type call func(f api.Grid) (api.Grid, api.Errno)

// of: what a call answers to a right field.
func of(t *testing.T, do call, f api.Grid) api.Grid {
	t.Helper()
	g, e := do(f)
	if e != api.OK || g.N != f.N || len(g.Cells) != f.N*f.N {
		t.Fatalf("a field of side %d: side %d, %d cells, error %d", f.N, g.N, len(g.Cells), e)
	}
	return g
}

// check: are those the numbers, bit by bit?
func check(t *testing.T, what string, got, want []complex128) {
	t.Helper()
	if len(got) != len(want) {
		t.Fatalf("%s: %d numbers, not %d", what, len(got), len(want))
	}
	for j := range want {
		if !sample.Agree(got[j], want[j]) {
			t.Fatalf("%s: of %d numbers, at %d: %s, not %s", what, len(want), j, cx.Text(got[j]), cx.Text(want[j]))
		}
	}
}
