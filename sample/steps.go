package sample

import (
	"slices"

	"penumbra/api"
)

// What the layers in which a thing moves are tried with: steps that lose nothing, that lose a cell, and of all lengths.

// Room: the least and the greatest step each way with which every cell that isn't 0 stays in the grid; as far as the side where there is none.
func Room(g api.Grid) (least, most api.Step) {
	least, most = api.Step{X: -g.N, Y: -g.N}, api.Step{X: g.N, Y: g.N}
	for j, v := range g.Cells {
		if x, y := j%g.N, j/g.N; v != 0 {
			least = api.Step{X: max(least.X, -x), Y: max(least.Y, -y)}
			most = api.Step{X: min(most.X, g.N-1-x), Y: min(most.Y, g.N-1-y)}
		}
	}
	return least, most
}

// Walk: so many steps with which nothing is lost, the furthest ones among them.
func (d *Dice) Walk(g api.Grid, many int) []api.Step {
	least, most := Room(g)
	between := func(low, high int) int {
		return []int{low, high, low + d.Number(high-low), low + d.Number(high-low)}[d.Number(3)]
	}
	out := make([]api.Step, many)
	for i := range out {
		out[i] = api.Step{X: between(least.X, most.X), Y: between(least.Y, most.Y)}
	}
	return out
}

// Astray: the steps, but that one of them goes a step too far, one way or another.
func (d *Dice) Astray(g api.Grid, steps []api.Step) []api.Step {
	if len(steps) == 0 {
		return steps
	}
	least, most := Room(g)
	out := slices.Clone(steps)
	at := &out[d.Number(len(out)-1)]
	switch d.Number(3) {
	case 0:
		at.X = least.X - 1
	case 1:
		at.X = most.X + 1
	case 2:
		at.Y = least.Y - 1
	case 3:
		at.Y = most.Y + 1
	}
	return out
}

// Reaches: how far a step may go: not at all, one, about the side, and as far as an int goes.
func Reaches(n int) []int {
	return append(Ends(), 0, 0, 0, 1, -1, n-1, 1-n, n, -n, n+1, -n-1, 2*n, 64*n)
}

// AnySteps: so many, of all lengths.
func (d *Dice) AnySteps(n, many int) []api.Step {
	all := Reaches(n)
	out := make([]api.Step, many)
	for i := range out {
		out[i] = api.Step{X: all[d.Number(len(all)-1)], Y: all[d.Number(len(all)-1)]}
	}
	return out
}

// Same: one step so many times.
func Same(s api.Step, many int) []api.Step { return slices.Repeat([]api.Step{s}, many) }
