package torus_test

import (
	"math"
	"slices"
	"testing"

	"penumbra/api"
	"penumbra/cx"
	"penumbra/sample"
)

// powers: the sides that the transform takes.
func powers() []int { return []int{1, 2, 4, 8, 16, 32, 64} }

// others: sides of sound grids that it does not take.
func others() []int { return []int{3, 5, 6, 7, 9, 12, 24, 33, 48, 63} }

// A slope is what a line goes along.
type slope struct{ a, b int }

// steps: numbers about 0 and about the side, and great ones; some whose products would go round to a wrong remainder.
func steps(n int) []int {
	return []int{0, 1, -1, 2, 3, n - 1, n, n + 1, -n, -n - 1, n / 2, 1000003, -1 << 40, 1<<58 + 1, math.MaxInt/63 + 2, 1<<62 + 7, math.MinInt, math.MinInt + 1, math.MaxInt - 1, math.MaxInt}
}

// slopes: each of those with each other.
func slopes(n int) []slope {
	var out []slope
	for _, a := range steps(n) {
		for _, b := range steps(n) {
			out = append(out, slope{a, b})
		}
	}
	return out
}

// someSlopes: fewer, with all kinds among them: none, both even, either one 0, either sign, beyond the side, the ends of int.
func someSlopes(n int) []slope {
	return []slope{{0, 0}, {1, 0}, {0, 1}, {1, 1}, {1, -1}, {2, 4}, {n / 2, n / 2}, {0, n / 2}, {n - 1, n}, {-n, n + 1}, {3, -2}, {-7, 22}, {13, 5*n + 6}, {1 << 40, -1000003}, {math.MinInt, math.MaxInt}, {math.MaxInt, math.MinInt + 1}, {math.MaxInt - 1, math.MaxInt}}
}

// allSlopes: every pair of remainders.
func allSlopes(n int) []slope {
	var out []slope
	for a := range n {
		for b := range n {
			out = append(out, slope{a, b})
		}
	}
	return out
}

// lone: grids of one cell that isn't 0, at the corners and inside.
func lone(n int) []api.Grid {
	var out []api.Grid
	for _, place := range []int{0, n - 1, n * n / 2, n*n - n, n*n - 1} {
		for _, v := range []complex128{1, complex(-api.MaxPart, api.MaxPart), -1i} {
			out = append(out, sample.With(sample.Filled(n, 0), place, v))
		}
	}
	return out
}

// signed: cells of the greatest parts whose signs go with a wave over the field, so that the transform has its greatest number there.
func signed(n int) []api.Grid {
	var out []api.Grid
	for _, w := range []slope{{1, 0}, {0, 1}, {1, 1}, {3, 5}, {n / 2, 0}, {n / 2, n / 2}, {n - 1, 2}} {
		g := sample.Filled(n, 0)
		for place := range g.Cells {
			turn := 2 * math.Pi * float64(w.a*(place%n)+w.b*(place/n)) / float64(n)
			re, im := math.Copysign(api.MaxPart, math.Cos(turn)), math.Copysign(api.MaxPart, math.Sin(turn))
			g.Cells[place] = complex(re, im)
		}
		out = append(out, g)
	}
	return out
}

// cancelling: each row is the one above with the other sign, and each column likewise, so that most sums are noughts.
func cancelling(n int) api.Grid {
	g := sample.Filled(n, 0)
	for place := range g.Cells {
		v := complex(5, -3)
		if (place%n+place/n)%2 == 1 {
			v = -5 + 3i
		}
		g.Cells[place] = v
	}
	return g
}

// grids: sound ones of every kind.
func grids(n int) []api.Grid {
	return slices.Concat(sample.Grids(n), lone(n), signed(n), []api.Grid{cancelling(n)})
}

// right: what was answered without an error.
func right[T any](t *testing.T, got T, e api.Errno) T {
	t.Helper()
	if e != api.OK {
		t.Fatalf("error %d", e)
	}
	return got
}

// refused: with that error, and nothing beside it.
func refused(t *testing.T, name string, empty bool, e, want api.Errno) {
	t.Helper()
	if e != want || !empty {
		t.Fatalf("%s: error %d, not %d, or something beside it", name, e, want)
	}
}

// check: are those the bins, bit by bit?
func check(t *testing.T, what string, n int, s slope, got, want []complex128) {
	t.Helper()
	if len(got) != len(want) {
		t.Fatalf("%s, side %d, along %v: %d bins, not %d", what, n, s, len(got), len(want))
	}
	for bin := range want {
		if !sample.Agree(got[bin], want[bin]) {
			t.Fatalf("%s, side %d, along %v, bin %d: %s, not %s", what, n, s, bin, cx.Text(got[bin]), cx.Text(want[bin]))
		}
	}
}
