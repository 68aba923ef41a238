package sample

import (
	"math"

	"penumbra/api"
)

// Ends: of int, and numbers whose products go round or whose low halves look like small ones.
func Ends() []int {
	return []int{math.MinInt, math.MinInt + 1, -1 << 62, -1 << 32, -1<<32 + 1, 1 << 31, 1 << 32, 1<<32 + 1, 1<<32 + 3, 1 << 60, 1<<60 + 1, 1 << 62, math.MaxInt - 1, math.MaxInt}
}

// Sides: of a grid: the edges, and ordinary ones, odd and even.
func Sides() []int { return []int{1, 2, 3, 4, 5, 8, 13, 17, 63, 64} }

// NoSides: what is no side of a grid.
func NoSides() []int {
	return append(Ends(), -65, -64, -3, -2, -1, 0, 65, 66, 128, 1024, 4096)
}

// Dirs: the directions with an edge about them, and ordinary ones.
func Dirs() []api.Dir {
	return []api.Dir{
		{P: 1}, {Q: 1}, {P: 1, Q: 1}, {P: -1, Q: 1}, {P: 1, Q: 2}, {P: -1, Q: 2}, {P: 2, Q: 1}, {P: -2, Q: 1}, {P: 3, Q: 2}, {P: -3, Q: 5},
		{P: 16, Q: 1}, {P: -16, Q: 1}, {P: 1, Q: 16}, {P: -1, Q: 16}, {P: 16, Q: 15}, {P: -16, Q: 15}, {P: 15, Q: 16}, {P: -15, Q: 16}, {P: 9, Q: 16}, {P: -7, Q: 12},
	}
}

// NoDirs: what is no direction in its one form.
func NoDirs() []api.Dir {
	out := []api.Dir{
		{}, {P: -1}, {P: 2}, {P: -2}, {P: 16}, {P: -16}, {Q: -1}, {Q: 2}, {Q: 16}, {Q: -16},
		{P: 1, Q: -1}, {P: -1, Q: -1}, {P: 2, Q: 2}, {P: -2, Q: 2}, {P: 4, Q: 6}, {P: -9, Q: 15}, {P: 16, Q: 16}, {P: -16, Q: 16}, {P: 14, Q: 7}, {P: 13, Q: 13}, {P: 2, Q: -3},
		{P: 17, Q: 1}, {P: -17, Q: 1}, {P: 1, Q: 17}, {P: -1, Q: 17}, {P: 17, Q: 16}, {P: 16, Q: 17}, {P: 17}, {P: -17}, {Q: 17}, {Q: -17}, {P: 17, Q: -1}, {P: 17, Q: 17}, {P: 34, Q: 2},
	}
	for _, a := range Ends() {
		out = append(out, api.Dir{P: a, Q: 1}, api.Dir{P: 1, Q: a}, api.Dir{P: a}, api.Dir{Q: a}, api.Dir{P: a, Q: a}, api.Dir{P: a, Q: 16}, api.Dir{P: -16, Q: a})
	}
	return out
}
