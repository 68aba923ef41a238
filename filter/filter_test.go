package filter_test

import (
	"math"
	"testing"

	"penumbra/api"
	"penumbra/filter"
	"penumbra/sample"
)

// P16.1: Length of every number of bins, from below none to beyond the most, and at the ends of int.
func TestLength(t *testing.T) {
	all := []int{math.MinInt, math.MinInt + 1, math.MinInt / 2, math.MaxInt, math.MaxInt/2 + 1, math.MaxInt / 2, 1 << 32, 1<<32 + 1, 1 << 62, 1 << 61}
	for bins := -70; bins <= 2*api.MaxLen+1; bins++ {
		all = append(all, bins)
	}
	for _, bins := range all {
		n, e := filter.Length(bins)
		want, found := length(bins)
		if n != want || found && e != api.OK || !found && e != api.ErrLen {
			t.Errorf("%d bins: %d, error %d, not %d", bins, n, e, want)
		}
	}
}

// P16.1: the chapter's examples of lengths, and those on both sides of where the length changes.
func TestLengthExamples(t *testing.T) {
	for bins, want := range map[int]int{1: 2, 2: 4, 3: 8, 4: 8, 5: 16, 8: 16, 9: 32, 1024: 2048, 1025: 4096, 2048: 4096} {
		if n, e := filter.Length(bins); n != want || e != api.OK {
			t.Errorf("%d bins: %d, error %d, not %d", bins, n, e, want)
		}
	}
	for _, bins := range []int{2049, 0, -1} {
		if n, e := filter.Length(bins); n != 0 || e != api.ErrLen {
			t.Errorf("%d bins: %d, error %d", bins, n, e)
		}
	}
}

// P16.1: every weight of every length and kind, bit by bit.
func TestWeightsByTheirRules(t *testing.T) {
	for _, n := range lengths() {
		for _, kind := range kinds() {
			for k, got := range weights(t, n, kind) {
				if want := weight(n, kind, k); math.Float64bits(got) != math.Float64bits(want) {
					t.Fatalf("length %d, kind %d, at %d: %v, not %v", n, kind, k, got, want)
				}
			}
		}
	}
}

// P16.1: the chapter's examples of weights, and others that are exact.
func TestWeightsExamples(t *testing.T) {
	for _, c := range []struct {
		kind int
		want []float64
	}{
		{api.Flat, []float64{1}},
		{api.Flat, []float64{1, 1}},
		{api.Flat, []float64{1, 1, 1, 1, 1, 1, 1, 1}},
		{api.Ramp, []float64{0}},
		{api.Ramp, []float64{0, 0.5}},
		{api.Ramp, []float64{0, 0.25, 0.5, 0.25}},
		{api.Ramp, []float64{0, 0.125, 0.25, 0.375, 0.5, 0.375, 0.25, 0.125}},
		{api.Soft, []float64{0}},
		{api.Soft, []float64{0, 0}},
		{api.Soft, []float64{0, 0.125, 0, 0.125}},
	} {
		for k, got := range weights(t, len(c.want), c.kind) {
			if math.Float64bits(got) != math.Float64bits(c.want[k]) {
				t.Errorf("length %d, kind %d, at %d: %v, not %v", len(c.want), c.kind, k, got, c.want[k])
			}
		}
	}
}

// P16.1: what is no length is told ahead of what is no kind, and nothing stands beside an error.
func TestWrongWeights(t *testing.T) {
	for _, n := range noLengths() {
		for _, kind := range append(noKinds(), kinds()...) {
			if w, e := filter.Weights(n, kind); e != api.ErrLen || len(w) != 0 {
				t.Fatalf("length %d, kind %d: %d weights, error %d", n, kind, len(w), e)
			}
		}
	}
	for _, n := range lengths() {
		for _, kind := range noKinds() {
			if w, e := filter.Weights(n, kind); e != api.ErrFilter || len(w) != 0 {
				t.Errorf("length %d, kind %d: %d weights, error %d", n, kind, len(w), e)
			}
		}
	}
}

// P16.1: bins of all kinds of numbers, by every kind, bit by bit.
func TestApplyByItsRules(t *testing.T) {
	for _, n := range counts() {
		for _, kind := range kinds() {
			w := weighing(n, kind)
			for _, x := range append(sample.Lists(n), sample.Wholes(n)[:5]...) {
				check(t, x, kind, apply(x, w))
			}
		}
	}
}

// P16.1: the chapter's examples, and others that are exact.
func TestApplyExamples(t *testing.T) {
	for _, c := range []struct {
		kind    int
		x, want []complex128
	}{
		{api.Flat, []complex128{1}, []complex128{1}},
		{api.Flat, []complex128{4}, []complex128{4}},
		{api.Ramp, []complex128{4}, []complex128{1}},
		{api.Soft, []complex128{4}, []complex128{0}},
		{api.Ramp, []complex128{8i}, []complex128{2i}},
		{api.Ramp, []complex128{4, 0}, []complex128{1, -0.5}},                 // the frequencies 4, 4, 4, 4 weigh 0, 1, 2, 1
		{api.Soft, []complex128{8, 0}, []complex128{0.5, 0}},                  // 8, 8, 8, 8 weigh 0, 1, 0, 1
		{api.Flat, []complex128{1, 2i}, []complex128{1, 2i}},                  // 1+2i, 3, 1-2i, -1
		{api.Ramp, []complex128{8, 8}, []complex128{1, 1}},                    // 16, 8-8i, 0, 8+8i weigh 0, 2-2i, 0, 2+2i
		{api.Soft, []complex128{8, 8}, []complex128{0.5, 0.5}},                // and 0, 1-1i, 0, 1+1i
		{api.Ramp, []complex128{8, -8i}, []complex128{2 + 1i, -1 - 2i}},       // 8-8i, 0, 8+8i, 16 weigh 0, 0, 4+4i, 4
		{api.Soft, []complex128{8, -8i}, []complex128{0.5, complex(0, -0.5)}}, // and 0, 0, 0, 2
	} {
		got := filtered(t, c.x, c.kind)
		for k := range c.want {
			if got[k] != c.want[k] {
				t.Errorf("%v, kind %d: %v, not %v", c.x, c.kind, got, c.want)
			}
		}
	}
}

// P16.1: one number that isn't finite, where the weights are 0 and where they aren't, written out.
func TestNotFinite(t *testing.T) {
	inf, nan := math.Inf(1), math.NaN()
	for _, c := range []struct {
		kind    int
		x, want complex128
	}{
		{api.Flat, complex(inf, 0), complex(inf, nan)}, // on the way back the root's second part, 0, meets the infinity
		{api.Ramp, complex(inf, 0), complex(nan, nan)}, // and the first frequency's weight, 0, meets one too
		{api.Soft, complex(0, -inf), complex(nan, nan)},
		{api.Flat, complex(nan, 0), complex(nan, nan)},
		{api.Flat, complex(math.MaxFloat64, 0), complex(inf, 0)}, // both frequencies are that, and their sum is too great
	} {
		check(t, []complex128{c.x}, c.kind, []complex128{c.want})
	}
}

// P16.1: as many bins as there may not be are told ahead of what is no kind, and nothing stands beside an error.
func TestWrongBins(t *testing.T) {
	d := sample.Dice(7)
	for _, n := range noCounts() {
		for _, kind := range append(noKinds(), kinds()...) {
			if y, e := filter.Apply(d.List(n, d.AnyBits), kind); e != api.ErrLen || len(y) != 0 {
				t.Errorf("%d bins, kind %d: %d of them, error %d", n, kind, len(y), e)
			}
			// Their number counts, not the room behind them.
			if y, e := filter.Apply(make([]complex128, 0, 8), kind); e != api.ErrLen || len(y) != 0 {
				t.Errorf("no bins, with room for eight, kind %d: %d of them, error %d", kind, len(y), e)
			}
			if y, e := filter.Apply(nil, kind); e != api.ErrLen || len(y) != 0 {
				t.Errorf("nil, kind %d: %d bins, error %d", kind, len(y), e)
			}
		}
	}
	for _, n := range counts() {
		for _, kind := range noKinds() {
			if y, e := filter.Apply(d.List(n, d.AnyBits), kind); e != api.ErrFilter || len(y) != 0 {
				t.Errorf("%d bins, kind %d: %d of them, error %d", n, kind, len(y), e)
			}
		}
	}
}
