package fit_test

import (
	"math"
	"testing"

	"penumbra/api"
	"penumbra/sample"
)

// P18.1: a field that is none is told ahead of too many projections, these ahead of faults in one of them, all of them ahead of rounds and down.
func TestFaultsInTheirOrder(t *testing.T) {
	wheel := sample.Wheel()
	none, empty := sample.Proj(2, 2, 1, 2, 3), api.Proj{Dir: wheel[5]}
	lists := [][]api.Proj{nil, {}, eight(), {none}, {empty}, make([]api.Proj, 65), sample.Blanks(2, wheel[:65]).Projs}
	for _, n := range sample.NoSides() {
		for _, cells := range []int{0, 1, 4, 64 * 64, 65 * 65} {
			for _, projs := range lists {
				noneAnswers(t, api.Grid{N: n, Cells: make([]complex128, cells)}, projs, api.ErrArg)
			}
		}
	}
	for _, n := range sample.Sides() {
		for _, cells := range []int{0, 1, n, n*n - 1, n*n + 1, 2 * n * n, (n + 1) * (n + 1), 70000} {
			if cells == n*n {
				continue
			}
			for _, projs := range append(lists, sample.Blanks(n, wheel[:3]).Projs) {
				noneAnswers(t, api.Grid{N: n, Cells: make([]complex128, cells)}, projs, api.ErrArg)
			}
		}
		// Room for the missing cells is no cell.
		noneAnswers(t, api.Grid{N: n, Cells: make([]complex128, n*n-1, n*n+5)}, nil, api.ErrArg)
	}
}

// P18.1: too many projections ahead of what is wrong in one of them; then the first one that has a fault, its direction ahead of its bins.
func TestFaultsOfProjections(t *testing.T) {
	for _, n := range sample.Sides() {
		for _, flaw := range sample.LaidFlaws(n) {
			noneAnswers(t, sample.Numbered(n), flaw.Sino.Projs, flaw.Want)
		}
	}
}

// P18.1: likewise of each fault wherever it stands; one direction may stand twice, and bins and cells may have any values.
func TestFaultsOfSinos(t *testing.T) {
	d := sample.Dice(185)
	count := map[api.Errno]int{}
	for _, flaw := range sample.SinoFlaws() {
		n, projs := flaw.Sino.N, flaw.Sino.Projs
		f := api.Grid{N: n}
		if n > 0 && n <= 64 {
			f = field(n, d.AnyBits)
		}
		want := fault(f, projs)
		count[want]++
		if want != api.OK {
			noneAnswers(t, f, projs, want)
			continue
		}
		checkProjs(t, about(n, projs), rests(t, f, projs), left(f, projs))
		checkFit(t, about(n, projs), run(t, f, projs, 1, 4), fitted(f, projs, 1, 4))
	}
	for _, e := range []api.Errno{api.OK, api.ErrArg, api.ErrLong, api.ErrDir, api.ErrBins} {
		if count[e] < 20 {
			t.Errorf("only %d of them are told error %d", count[e], e)
		}
	}
}

// P18.1: what is no number of rounds and no power, where nothing else is wrong; also where no round would be done.
func TestNoRoundsAndNoDown(t *testing.T) {
	for _, n := range sample.Sides() {
		for _, projs := range [][]api.Proj{nil, {}, {sample.Blank(n, api.Dir{P: 1})}, sample.Blanks(n, sample.Dirs()).Projs, sample.Seen(sample.Numbered(n), sample.Dirs()).Projs} {
			f := sample.Numbered(n)
			for _, rounds := range noRounds() {
				for _, down := range []int{0, 30, -1, 31, math.MaxInt} {
					noRun(t, f, projs, rounds, down, api.ErrArg)
				}
			}
			for _, down := range noDown() {
				for _, rounds := range []int{0, 64, 65} {
					noRun(t, f, projs, rounds, down, api.ErrArg)
				}
			}
		}
	}
	for _, rounds := range []int{0, 1, 2, 63, 64} {
		for down := range 31 {
			run(t, square(1, 0), eight(), rounds, down)
		}
	}
}
