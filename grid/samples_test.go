package grid_test

import (
	"math"
	"testing"

	"penumbra/api"
	"penumbra/cx"
	"penumbra/sample"
)

// anyInts: ways, turns and places; some of them would go round to a place inside, times a side or beside it.
func anyInts(n int) []int {
	out := []int{math.MinInt, math.MinInt + 1, math.MinInt + n - 1, math.MinInt + n, math.MinInt + 63, -1 << 58, -1000003, -1 << 32, -2*n - 1, -n - 1, -n, -n + 1, -65, -64, -63}
	for d := -5; d <= 5; d++ {
		out = append(out, d)
	}
	return append(out, 63, 64, 65, n-1, n, n+1, 2*n, 1<<32, 999983, 1<<58, 1<<58+1, 1<<62, 1<<62+1, math.MaxInt-63, math.MaxInt-n, math.MaxInt-1, math.MaxInt)
}

// right: what a call that isn't refused answers, which is sound, bit by bit too.
func right(t *testing.T, g api.Grid, e api.Errno) api.Grid {
	t.Helper()
	if e != api.OK || g.N < 1 || g.N > 64 || len(g.Cells) != g.N*g.N {
		t.Fatalf("side %d, %d cells, error %d", g.N, len(g.Cells), e)
	}
	for j, v := range g.Cells {
		for _, x := range []float64{real(v), imag(v)} {
			if x != math.Trunc(x) || math.Abs(x) > api.MaxPart || x == 0 && math.Signbit(x) {
				t.Fatalf("side %d, at %d: %s is no cell's value", g.N, j, cx.Text(v))
			}
		}
	}
	return g
}

// check: is that the grid, bit by bit?
func check(t *testing.T, what string, got, want api.Grid) {
	t.Helper()
	if got.N != want.N || len(got.Cells) != len(want.Cells) {
		t.Fatalf("%s: side %d, %d cells, not side %d, %d cells", what, got.N, len(got.Cells), want.N, len(want.Cells))
	}
	for j := range want.Cells {
		if !sample.Agree(got.Cells[j], want.Cells[j]) {
			t.Fatalf("%s: side %d, at %d: %v, not %v", what, want.N, j, got.Cells[j], want.Cells[j])
		}
	}
}

// refused: is it that error, with nothing beside it?
func refused(t *testing.T, what string, g api.Grid, e, want api.Errno) {
	t.Helper()
	if e != want || g.N != 0 || len(g.Cells) != 0 {
		t.Fatalf("%s: side %d, %d cells, error %d, not %d", what, g.N, len(g.Cells), e, want)
	}
}
