package filter_test

import (
	"testing"

	"penumbra/api"
	"penumbra/cx"
	"penumbra/sample"
	"penumbra/wave"
)

// P16.2: weights are from 0 to 1.
func TestWeightsAreFromNoughtToOne(t *testing.T) {
	for _, n := range lengths() {
		for _, kind := range kinds() {
			for k, w := range weights(t, n, kind) {
				if !(w >= 0 && w <= 1) {
					t.Errorf("length %d, kind %d, at %d: %v", n, kind, k, w)
				}
			}
		}
	}
}

// P16.2: number k is number n - k.
func TestWeightsAreMirrored(t *testing.T) {
	for _, n := range lengths() {
		for _, kind := range kinds() {
			w := weights(t, n, kind)
			for k := 1; k < n; k++ {
				if w[k] != w[n-k] {
					t.Errorf("length %d, kind %d: %v at %d, %v at %d", n, kind, w[k], k, w[n-k], n-k)
				}
			}
		}
	}
}

// turned: every number times the k-th power of i.
func turned(x []complex128, k int) []complex128 {
	out := make([]complex128, len(x))
	for j, a := range x {
		out[j] = cx.Turn(a, k)
	}
	return out
}

// P16.2: the bins turned are filtered to what comes out, turned.
func TestTurned(t *testing.T) {
	for _, n := range counts() {
		for _, x := range sample.Finite(n) {
			for _, kind := range kinds() {
				y := filtered(t, x, kind)
				for k := 1; k <= 3; k++ {
					want := turned(y, k)
					for j, a := range filtered(t, turned(x, k), kind) {
						if a != want[j] { // noughts whatever their signs; a NaN is not the same as itself
							t.Fatalf("%d bins, kind %d, turned %d times, at %d: %s, not %s", n, kind, k, j, cx.Text(a), cx.Text(want[j]))
						}
					}
				}
			}
		}
	}
}

// P16.3: Flat of whole bins is, rounded, the bins.
func TestFlat(t *testing.T) {
	for _, n := range counts() {
		for i, x := range sample.Wholes(n) {
			for j, a := range wave.Whole(filtered(t, x, api.Flat)) {
				if !sample.Agree(a, x[j]) {
					t.Fatalf("%d bins, list %d, at %d: %v, not %v", n, i, j, a, x[j])
				}
			}
		}
	}
}

// P16.3: of bins 0, whatever their signs, Apply is 0.
func TestNought(t *testing.T) {
	for _, n := range counts() {
		d := sample.Dice(n)
		for _, x := range [][]complex128{make([]complex128, n), d.List(n, d.Sign), d.List(n, sample.MinusNought)} {
			for _, kind := range kinds() {
				for j, a := range filtered(t, x, kind) {
					if a != 0 {
						t.Fatalf("%d bins 0, kind %d, at %d: %v", n, kind, j, a)
					}
				}
			}
		}
	}
}

// P16.1: a number alone at the first place has all frequencies alike, so that what comes out there is that number times the weights' mean: the Ramp's is a quarter.
func TestOneAtTheFirst(t *testing.T) {
	for _, n := range lengths()[:12] {
		x := make([]complex128, n)
		x[0] = complex(float64(n), float64(-2*n))
		if flat := filtered(t, x, api.Flat)[0]; flat != x[0] {
			t.Errorf("%d bins, flat: %v", n, flat)
		}
		if ramp := filtered(t, x, api.Ramp)[0]; ramp != cx.Scale(x[0], -2) {
			t.Errorf("%d bins, ramp: %v", n, ramp)
		}
	}
}
