package motion_test

import (
	"math"
	"slices"
	"testing"

	"penumbra/api"
	"penumbra/sample"
)

// P20.1: what is no grid is told ahead of all else, whatever the directions and the steps are.
func TestNoGrids(t *testing.T) {
	flaws := sample.DirFlaws()
	one := []api.Dir{{P: 1}}
	for i, g := range sample.NoGrids() {
		checkTake(t, g, nil, nil, api.Sino{}, api.ErrGrid)
		checkTake(t, g, one, make([]api.Step, 1), api.Sino{}, api.ErrGrid)
		checkTake(t, g, one, nil, api.Sino{}, api.ErrGrid)
		checkTake(t, g, one, []api.Step{{X: math.MinInt}}, api.Sino{}, api.ErrGrid)
		dirs := flaws[i%len(flaws)].Dirs
		checkTake(t, g, dirs, make([]api.Step, len(dirs)), api.Sino{}, api.ErrGrid)
		checkTake(t, g, dirs, make([]api.Step, 3), api.Sino{}, api.ErrGrid)
	}
}

// P20.1: then how many directions there are, then the first that is none or stands twice, ahead of how many steps there are and of what is lost.
func TestNoDirs(t *testing.T) {
	full, blank := sample.Numbered(2), sample.Filled(3, 0)
	for _, flaw := range sample.DirFlaws() {
		many := len(flaw.Dirs)
		for _, g := range []api.Grid{full, blank} {
			for _, steps := range [][]api.Step{nil, make([]api.Step, many), make([]api.Step, many-1), make([]api.Step, many+1), sample.Same(api.Step{X: 1}, many), sample.Same(api.Step{X: math.MaxInt, Y: math.MinInt}, many)} {
				checkTake(t, g, flaw.Dirs, steps, api.Sino{}, flaw.Want)
			}
		}
	}
}

// notAsMany: numbers of steps that are not that one.
func notAsMany(many int) []int {
	var out []int
	for _, other := range []int{0, 1, many - 1, many + 1, 2 * many, 64, 65, 70000} {
		if other >= 0 && other != many {
			out = append(out, other)
		}
	}
	return out
}

// P20.1: then too few steps or too many, ahead of what is lost by those that are there.
func TestNotAsManySteps(t *testing.T) {
	for _, n := range []int{1, 2, 13} {
		full, blank := sample.Numbered(n), sample.Filled(n, 0)
		for _, dirs := range sample.DirLists() {
			for _, other := range notAsMany(len(dirs)) {
				for _, g := range []api.Grid{full, blank} {
					for _, step := range []api.Step{{}, {X: 1}, {Y: math.MinInt}} {
						checkTake(t, g, dirs, sample.Same(step, other), api.Sino{}, api.ErrArg)
						checkUndo(t, sample.Seen(g, dirs), sample.Same(step, other), api.Sino{}, api.ErrArg)
					}
				}
			}
			if many := len(dirs); many > 0 { // room for the missing ones is no step
				checkTake(t, full, dirs, make([]api.Step, many-1, many+5), api.Sino{}, api.ErrArg)
				checkUndo(t, sample.Seen(full, dirs), make([]api.Step, many-1, many+5), api.Sino{}, api.ErrArg)
			}
		}
	}
}

// P20.1: projections that aren't sound are told of as layer 11 does, ahead of how many steps there are and of what is lost.
func TestNoProjections(t *testing.T) {
	for i, flaw := range sample.SinoFlaws() {
		many := len(flaw.Sino.Projs)
		for _, steps := range [][]api.Step{make([]api.Step, many), nil, make([]api.Step, many+1), sample.Same(api.Step{X: 3, Y: -1}, many), sample.Same(api.Step{X: math.MinInt, Y: math.MaxInt}, many)} {
			if i%7 == 0 || many < 10 {
				checkUndo(t, flaw.Sino, steps, api.Sino{}, flaw.Want)
			}
		}
	}
}

// P20.1: what is no side is told ahead of what is no direction, of how many bins there are and of what is moved out.
func TestNoSides(t *testing.T) {
	for _, n := range sample.NoSides() {
		for _, along := range append(sample.NoDirs()[:6], api.Dir{P: 1}, api.Dir{P: -16, Q: 15}) {
			for _, many := range []int{0, 1, 2, 65, 2049} {
				for _, by := range []int{0, 1, math.MinInt} {
					checkSlide(t, n, api.Proj{Dir: along, Bins: make([]complex128, many)}, by, api.Proj{}, api.ErrArg)
				}
			}
		}
	}
	// As many bins as such a side has.
	for _, n := range []int{65, 66, 128} {
		checkSlide(t, n, sample.Blank(n, api.Dir{P: 1, Q: 2}), 0, api.Proj{}, api.ErrArg)
	}
}

// P20.1: then what is no direction, whatever bins there are.
func TestSlideAlongNone(t *testing.T) {
	for _, n := range []int{1, 2, 13, 64} {
		for _, along := range sample.NoDirs() {
			for _, bins := range [][]complex128{nil, {0}, {5}, make([]complex128, n), {1, complex(math.NaN(), 2), 3}} {
				for _, by := range []int{0, -1, math.MaxInt} {
					checkSlide(t, n, api.Proj{Dir: along, Bins: bins}, by, api.Proj{}, api.ErrDir)
				}
			}
		}
	}
}

// P20.1: then too few bins or too many, ahead of what is moved out, which comes last.
func TestNotAsManyBins(t *testing.T) {
	for _, n := range []int{1, 2, 13, 64} {
		for _, along := range sample.Dirs() {
			many := sample.BinCount(n, along)
			for _, other := range []int{0, many - 1, many + 1, 2 * many, sample.BinCount(n+1, along), 70000} {
				if other == many {
					continue
				}
				for _, bins := range [][]complex128{make([]complex128, other), slices.Repeat([]complex128{2 - 3i}, other)} {
					for _, by := range []int{0, 1, -many, math.MinInt} {
						checkSlide(t, n, api.Proj{Dir: along, Bins: bins}, by, api.Proj{}, api.ErrBins)
					}
				}
			}
			// Room for the missing ones is no bin.
			checkSlide(t, n, api.Proj{Dir: along, Bins: make([]complex128, many-1, many+5)}, 0, api.Proj{}, api.ErrBins)
			full := api.Proj{Dir: along, Bins: slices.Repeat([]complex128{2 - 3i}, many)}
			for _, by := range append(sample.Ends(), 1, -1, many, -many) {
				checkSlide(t, n, full, by, api.Proj{}, api.ErrLost)
			}
		}
	}
}
