package back_test

import (
	"testing"

	"penumbra/api"
	"penumbra/back"
	"penumbra/sample"
)

// few: some of each kind, with faults and without, small enough to be gone through many times.
func few() []api.Sino {
	d := sample.Dice(185)
	out := []api.Sino{{N: 2, Projs: example()}, {N: 1, Projs: []api.Proj{sample.Proj(1, 0, 5)}}, {N: 2, Projs: make([]api.Proj, 65)}}
	for _, n := range []int{1, 2, 5} {
		for i, dirs := range sample.Along() {
			out = append(out, api.Sino{N: n, Projs: projs(n, dirs, d.Parts()[i%12])}, api.Sino{N: n + 1, Projs: projs(n, dirs, d.Near)})
		}
	}
	return append(out, sample.FewFlaws()...)
}

// P17.4: projections that are handed in are not changed: neither the list nor a direction, nor bins, nor the room behind any of these, whatever is answered.
func TestNotChanged(t *testing.T) {
	count := map[api.Errno]int{}
	for _, s := range few() {
		changed := sample.ChangedSino(s, func(same api.Sino) {
			n, given := same.N, same.Projs
			_, e := back.All(n, given)
			count[e]++
			for _, c := range [][2]int{{1, 3}, {3, 1}, {64, 16}, {0, 1}, {1, 17}} {
				back.Tiles(n, given, c[0], c[1])
			}
			for _, c := range [][2]api.Cell{{{}, {}}, {{}, last(n)}, {cell(1, 0), cell(1, 1)}, {cell(1, 1), {}}, {cell(-1, 0), {}}} {
				back.Region(n, given, c[0], c[1])
			}
			for _, kind := range append(kinds(), 0, 4) {
				back.Filtered(n, given, kind)
			}
		})
		if changed {
			t.Fatalf("%s: changed", about(s.N, s.Projs))
		}
	}
	for _, e := range []api.Errno{api.OK, api.ErrArg, api.ErrLong, api.ErrDir, api.ErrBins} {
		if count[e] == 0 {
			t.Errorf("none of them is told error %d", e)
		}
	}
}

// calls: every one, and what it tells.
func calls(n int) map[string]func(projs []api.Proj) []complex128 {
	middle := cell(n/2, n/3)
	return map[string]func(projs []api.Proj) []complex128{
		"All":            func(projs []api.Proj) []complex128 { f, _ := back.All(n, projs); return f.Cells },
		"Tiles":          func(projs []api.Proj) []complex128 { f, _ := back.Tiles(n, projs, 2, 3); return f.Cells },
		"Tiles, one":     func(projs []api.Proj) []complex128 { f, _ := back.Tiles(n, projs, 64, 16); return f.Cells },
		"Region":         func(projs []api.Proj) []complex128 { f, _ := back.Region(n, projs, middle, last(n)); return f },
		"Region, whole":  func(projs []api.Proj) []complex128 { f, _ := back.Region(n, projs, cell(0, 0), last(n)); return f },
		"Region, one":    func(projs []api.Proj) []complex128 { f, _ := back.Region(n, projs, middle, middle); return f },
		"Filtered, flat": func(projs []api.Proj) []complex128 { f, _ := back.Filtered(n, projs, api.Flat); return f.Cells },
		"Filtered, soft": func(projs []api.Proj) []complex128 { f, _ := back.Filtered(n, projs, api.Soft); return f.Cells },
	}
}

// P17.4: an answer shares no memory with bins that were handed in, nor with another answer, of before or of later.
func TestAnswersAreNew(t *testing.T) {
	d := sample.Dice(186)
	for _, n := range []int{1, 2, 5, 64} {
		// Along (-2, 1), side 2, and of side 1 the bins of a projection are the cells themselves.
		for _, dirs := range [][]api.Dir{{{P: -2, Q: 1}}, {{P: 1}}, {{Q: 1}, {P: 1}}, sample.Dirs()[:5]} {
			given := api.Sino{N: n, Projs: projs(n, dirs, d.Near)}
			for name, call := range calls(n) {
				for place, p := range given.Projs {
					shares := sample.Shared(p.Bins, func(bins []complex128) []complex128 {
						out := call(sample.WithProj(given, place, api.Proj{Dir: p.Dir, Bins: bins}).Projs)
						if len(out) == 0 {
							t.Fatalf("%s, %s: no answer", name, about(n, given.Projs))
						}
						return out
					})
					if shares != "" {
						t.Fatalf("%s, %s: the cells share memory with %s", name, about(n, given.Projs), shares)
					}
				}
			}
		}
	}
}

// P17.4: so are answers of no projections, and what is written over the list of projections later doesn't show.
func TestAnswersOfNoneAreNew(t *testing.T) {
	for _, n := range []int{1, 2, 13} {
		for name, call := range calls(n) {
			if shares := sample.Shared(nil, func([]complex128) []complex128 { return call(nil) }); shares != "" {
				t.Fatalf("%s, side %d: the cells share memory with %s", name, n, shares)
			}
			given := sample.Blanks(n, sample.Dirs())
			got := call(given.Projs)
			want := call(sample.CopySino(given).Projs)
			sample.WipeSino(given)
			checkCells(t, name, got, want)
		}
	}
}

// P1, rule 5: calls at the same time do not show in each other's answers.
func TestAtTheSameTime(t *testing.T) {
	d := sample.Dice(187)
	given := projs(13, sample.Dirs(), d.Near)
	for name, call := range calls(13) {
		if !sample.Alone(func() []complex128 { return call(given) }) {
			t.Errorf("%s answers otherwise beside itself", name)
		}
	}
}
