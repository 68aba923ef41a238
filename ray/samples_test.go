package ray_test

import (
	"math"
	"slices"
	"testing"

	"penumbra/api"
	"penumbra/dir"
	"penumbra/sample"
)

// wheel: all directions, those that stand near each other in the list being of unlike angles.
func wheel() []api.Dir {
	all, _ := dir.All(16)
	out := make([]api.Dir, len(all))
	for i := range all {
		out[i] = all[i*67%len(all)]
	}
	return out
}

// noWorkers: what is no number of workers.
func noWorkers() []int {
	return append(sample.Ends(), -17, -16, -2, -1, 0, 17, 18, 64, 1<<32+16)
}

// anyBins: lists for a projection, of every kind; NaNs with bits of their own among them.
func anyBins(many int) [][]complex128 {
	d := sample.Dice(many + 9)
	out := append(sample.Lists(many), d.List(many, func() float64 { return math.Float64frombits(d.Word() | 0x7ff0<<48) }))
	numbers := make([]complex128, many) // each bin another one
	for bin := range numbers {
		numbers[bin] = complex(float64(bin+1), -float64(bin))
	}
	return append(out, numbers)
}

// alike: the same direction, and the same bits in each bin, NaNs with theirs.
func alike(a, b api.Proj) bool {
	return a.Dir == b.Dir && slices.Equal(sample.Bits(a.Bins), sample.Bits(b.Bins))
}

// alikeAll: likewise of many, of one side.
func alikeAll(a, b api.Sino) bool { return a.N == b.N && slices.EqualFunc(a.Projs, b.Projs, alike) }

// alikeFields: the same side, and the same bits in each cell, NaNs with theirs.
func alikeFields(a, b api.Grid) bool {
	return a.N == b.N && slices.Equal(sample.Bits(a.Cells), sample.Bits(b.Cells))
}

// refused: with that error, and nothing beside it.
func refused(t *testing.T, name string, empty bool, e, want api.Errno) {
	t.Helper()
	if e != want || !empty {
		t.Fatalf("%s: error %d, not %d, or something beside it", name, e, want)
	}
}

func noProj(p api.Proj) bool { return p.Dir == api.Dir{} && len(p.Bins) == 0 }

func noSino(s api.Sino) bool { return s.N == 0 && len(s.Projs) == 0 }

func noGrid(g api.Grid) bool { return g.N == 0 && len(g.Cells) == 0 }

// right: what was answered without an error.
func right[T any](t *testing.T, got T, e api.Errno) T {
	t.Helper()
	if e != api.OK {
		t.Fatalf("error %d", e)
	}
	return got
}
