package filter_test

import (
	"math"
	"testing"

	"penumbra/api"
	"penumbra/cx"
	"penumbra/filter"
	"penumbra/sample"
)

// kinds: all that there are.
func kinds() []int { return []int{api.Flat, api.Ramp, api.Soft} }

// noKinds: the neighbours of those, and the ends of int.
func noKinds() []int { return []int{0, 4, -1, -2, -3, 5, 1 << 32, 1<<32 + 1, math.MinInt, math.MaxInt} }

// lengths: every one there is.
func lengths() []int {
	var out []int
	for n := 1; n <= api.MaxLen; n *= 2 {
		out = append(out, n)
	}
	return out
}

// noLengths: all others from below 0 to beyond the greatest, powers of two among them, and the ends of int.
func noLengths() []int {
	out := []int{2 * api.MaxLen, 4 * api.MaxLen, 1 << 32, 1 << 62, math.MinInt, math.MinInt + 1, math.MaxInt, -2, -4, -api.MaxLen}
	for n := -1; n <= api.MaxLen+70; n++ {
		if n <= 0 || n&(n-1) != 0 || n > api.MaxLen {
			out = append(out, n)
		}
	}
	return out
}

// counts: how many bins there may be: all up to 64, and on both sides of where the length changes.
func counts() []int {
	var out []int
	for n := 1; n <= 64; n++ {
		out = append(out, n)
	}
	return append(out, 65, 100, 127, 128, 129, 255, 256, 257, 500, 512, 513, 1000, 1024, 1025, 2047, 2048)
}

// noCounts: how many there may not be.
func noCounts() []int { return []int{0, 2049, 2050, 4095, 4096, 4097, 8192} }

// filtered: what Apply answers to as many bins as there may be, by a kind that there is.
func filtered(t *testing.T, x []complex128, kind int) []complex128 {
	t.Helper()
	y, e := filter.Apply(x, kind)
	if e != api.OK || len(y) != len(x) {
		t.Fatalf("%d bins, kind %d: %d of them, error %d", len(x), kind, len(y), e)
	}
	return y
}

// check: is that what Apply answers, bit by bit?
func check(t *testing.T, x []complex128, kind int, want []complex128) {
	t.Helper()
	for k, a := range filtered(t, x, kind) {
		if !sample.Agree(a, want[k]) {
			t.Fatalf("%d bins, kind %d, at %d: %s, not %s", len(x), kind, k, cx.Text(a), cx.Text(want[k]))
		}
	}
}

// weights: what Weights answers to a length and a kind that there are.
func weights(t *testing.T, n, kind int) []float64 {
	t.Helper()
	w, e := filter.Weights(n, kind)
	if e != api.OK || len(w) != n {
		t.Fatalf("length %d, kind %d: %d weights, error %d", n, kind, len(w), e)
	}
	return w
}
