package dir_test

import (
	"math"
	"testing"

	"penumbra/api"
	"penumbra/dir"
	"penumbra/sample"
)

// beyond: places outside a grid of side n.
func beyond(n int) []int { return append(sample.Ends(), -n, -2, -1, n, n+1, 2*n, 64) }

// pairs: numbers for Normal, multiples of directions and others.
func pairs() [][2]int {
	small := []int{-34, -33, -32, -18, -17, -16, -15, -8, -7, -6, -4, -3, -2, -1, 0, 1, 2, 3, 4, 5, 6, 7, 9, 12, 15, 16, 17, 18, 31, 32, 34, 48, 51, 255, 272}
	great := sample.Ends()
	for _, t := range []int{2, 3, 7, 15, 16, 17, 32, 49, 64, 73, 127} {
		great = append(great, math.MaxInt/t, math.MinInt/t, math.MaxInt/t*(t-1), math.MinInt/t*(t-1))
	}
	all := append(small, great...)
	var out [][2]int
	for _, p := range all {
		for _, q := range all {
			out = append(out, [2]int{p, q})
		}
	}
	d := sample.Dice(6)
	for range 1500 {
		a, b := int(d.Word()), int(d.Word())
		out = append(out, [2]int{a, b}, [2]int{a >> 56, b >> 57}, [2]int{a, b >> 40})
	}
	return out
}

// factors: of either sign, small ones and the greatest that 16 times as great are still an int (-2^59 leads to the least one).
func factors() []int {
	most := math.MaxInt / 16
	out := []int{1, -1, 2, -2, 3, -5, 16, -17, 97, -1000, 1 << 20, -1 << 31, 1<<31 - 1, 1 << 32, 1 << 58, -1 << 59, most, -most, most - 1, 1 - most}
	d := sample.Dice(66)
	for range 20 {
		out = append(out, int(d.Word())>>5|1)
	}
	return out
}

// calls: those about the lines of a grid, which have the same errors first; a list answers as its length.
func calls(a, b int) map[string]func(n int, d api.Dir) (int, api.Errno) {
	return map[string]func(n int, d api.Dir) (int, api.Errno){
		"Bins":  dir.Bins,
		"Index": func(n int, d api.Dir) (int, api.Errno) { return dir.Index(n, d, a, b) },
		"Line": func(n int, d api.Dir) (int, api.Errno) {
			cells, e := dir.Line(n, d, a)
			return len(cells), e
		},
	}
}

// refused: with that error, and nothing beside it.
func refused[T comparable](t *testing.T, name string, got T, e, want api.Errno) {
	t.Helper()
	var none T
	if e != want || got != none {
		t.Errorf("%s: %v, error %d, not %d", name, got, e, want)
	}
}

// right: what was answered without an error.
func right[T any](t *testing.T, got T, e api.Errno) T {
	t.Helper()
	if e != api.OK {
		t.Fatalf("error %d", e)
	}
	return got
}
