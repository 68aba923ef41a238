package ray_test

import (
	"math"
	"slices"
	"testing"

	"penumbra/api"
	"penumbra/sample"
)

// noWorkers: what is no number of workers.
func noWorkers() []int {
	return append(sample.Ends(), -17, -16, -2, -1, 0, 17, 18, 64, 1<<32+16)
}

// anyBins: lists for a projection, of every kind; NaNs with bits of their own among them.
func anyBins(many int) [][]complex128 {
	d := sample.Dice(many + 9)
	out := append(sample.Lists(many), d.List(many, func() float64 { return math.Float64frombits(d.Word() | 0x7ff0<<48) }))
	numbers := make([]complex128, many) // each bin another one
	for bin := range numbers {
		numbers[bin] = complex(float64(bin+1), -float64(bin))
	}
	return append(out, numbers)
}

// alikeFields: the same side, and the same bits in each cell, NaNs with theirs.
func alikeFields(a, b api.Grid) bool {
	return a.N == b.N && slices.Equal(sample.Bits(a.Cells), sample.Bits(b.Cells))
}

// refused: with that error, and nothing beside it.
func refused(t *testing.T, name string, empty bool, e, want api.Errno) {
	t.Helper()
	if e != want || !empty {
		t.Fatalf("%s: error %d, not %d, or something beside it", name, e, want)
	}
}

func noProj(p api.Proj) bool { return p.Dir == api.Dir{} && len(p.Bins) == 0 }

func noSino(s api.Sino) bool { return s.N == 0 && len(s.Projs) == 0 }

func noGrid(g api.Grid) bool { return g.N == 0 && len(g.Cells) == 0 }

// right: what was answered without an error.
func right[T any](t *testing.T, got T, e api.Errno) T {
	t.Helper()
	if e != api.OK {
		t.Fatalf("error %d", e)
	}
	return got
}
