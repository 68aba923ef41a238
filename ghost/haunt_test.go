package ghost_test

import (
	"math"
	"testing"

	"penumbra/api"
	"penumbra/ghost"
	"penumbra/sample"
)

// values: by which a ghost may be laid over a grid.
func values() []complex128 {
	return []complex128{0, 1, -1, 1i, -1i, 5 - 3i, 4, complex(api.MaxWorth, 0), complex(0, -api.MaxWorth), complex(-api.MaxWorth, api.MaxWorth)}
}

// checkHaunt: is it what the rules tell, cell by cell or by its error?
func checkHaunt(t *testing.T, g api.Grid, h api.Ghost, x, y int, v complex128) api.Errno {
	t.Helper()
	want, wrong := haunted(g, h, x, y, v)
	out, e := ghost.Haunt(g, h, x, y, v)
	if wrong != api.OK {
		refused(t, "Haunt", noGrid(out), e, wrong)
		return wrong
	}
	checkGrid(t, "Haunt", right(t, out, e), want)
	return api.OK
}

// P13.1: every place of small grids and ghosts, and those about it: below 0, at the edge, one beyond it.
func TestHauntEverywhere(t *testing.T) {
	all := []api.Ghost{of(t), of(t, api.Dir{P: 1}), of(t, api.Dir{Q: 1}), of(t, api.Dir{P: -1, Q: 1}), of(t, api.Dir{P: 2, Q: 1}, api.Dir{Q: 1}), of(t, sample.Short()[:4]...)}
	for _, s := range [][2]int{{1, 1}, {3, 1}, {1, 3}, {2, 3}, {3, 3}, {4, 4}} {
		all = append(all, ghosts(s[0], s[1])...)
	}
	told := map[api.Errno]int{}
	for n := 1; n <= 4; n++ {
		for k, h := range all {
			for at, g := range sample.Grids(n) {
				v := values()[(k+at)%len(values())]
				for x := -2; x <= n+1; x++ {
					for y := -2; y <= n+1; y++ {
						told[checkHaunt(t, g, h, x, y, v)]++
					}
				}
			}
		}
	}
	if told[api.OK] < 1000 || told[api.ErrArg] < 1000 || told[api.ErrBig] < 1000 {
		t.Errorf("the samples are too much alike: %v", told)
	}
}

// P13.1: great grids and ghosts, each value.
func TestHaunt(t *testing.T) {
	for _, n := range []int{5, 17, 63, 64} {
		grids := sample.Grids(n)[:7]
		for k, dirs := range lists() {
			h, e := ghost.Make(dirs)
			if e != api.OK || h.W > n || h.H > n || k%5 != 0 && len(dirs) == 1 {
				continue
			}
			for at, g := range grids {
				if (k+at)%3 != 0 && n > 17 {
					continue
				}
				v := values()[(k+at)%len(values())]
				checkHaunt(t, g, h, n-h.W, n-h.H, v)
				checkHaunt(t, g, h, (n-h.W)/2, 0, v)
				checkHaunt(t, g, h, 0, n-h.H+1, v)
				checkHaunt(t, g, h, n-h.W+1, n-h.H, v)
			}
		}
	}
	for _, s := range sizes() {
		for _, h := range ghosts(s[0], s[1]) {
			for _, v := range values() {
				checkHaunt(t, sample.Filled(64, 3-7i), h, 64-s[0], 64-s[1], v)
				checkHaunt(t, sample.Grids(64)[3], h, 0, 0, v)
			}
		}
	}
}

// P13.1: haunted grids that are written out; complex v times complex cells.
func TestHauntWrittenOut(t *testing.T) {
	nine := api.Grid{N: 3, Cells: []complex128{1, 2, 3, 4, 5, 6, 7, 8, 9i}}
	h := api.Ghost{W: 2, H: 1, Cells: []complex128{2 + 1i, -3i}}
	g, e := ghost.Haunt(nine, h, 1, 2, 1-4i) // (1-4i)(2+1i) is 6-7i, (1-4i)(-3i) is -12-3i
	checkGrid(t, "Haunt", right(t, g, e), api.Grid{N: 3, Cells: []complex128{1, 2, 3, 4, 5, 6, 7, 14 - 7i, -12 + 6i}})
	h = api.Ghost{W: 1, H: 3, Cells: []complex128{1, 0, -1}}
	g, e = ghost.Haunt(nine, h, 2, 0, 3)
	checkGrid(t, "Haunt", right(t, g, e), api.Grid{N: 3, Cells: []complex128{1, 2, 6, 4, 5, 6, 7, 8, -3 + 9i}})
	g, e = ghost.Haunt(nine, of(t, api.Dir{P: 1}, api.Dir{Q: 1}), 0, 1, 1i)
	checkGrid(t, "Haunt", right(t, g, e), api.Grid{N: 3, Cells: []complex128{1, 2, 3, 4 + 1i, 5 - 1i, 6, 7 - 1i, 8 + 1i, 9i}})
}

// P13.1: cells that cancel out, and products that are noughts with a sign, come out as 0 without one.
func TestHauntNoughts(t *testing.T) {
	g := api.Grid{N: 2, Cells: []complex128{5 - 2i, -5 + 2i, 0, 0}}
	out, e := ghost.Haunt(g, of(t, api.Dir{P: 1}), 0, 0, -5+2i)
	checkGrid(t, "Haunt", right(t, out, e), sample.Filled(2, 0))
	for _, v := range []complex128{0, -1, 1, 1i, -1i, -3 - 4i} {
		for _, worth := range []complex128{0, -1, -1i, 1, 1i} {
			for _, cell := range []complex128{0, 7, -7i} {
				checkHaunt(t, api.Grid{N: 1, Cells: []complex128{cell}}, filled(1, 1, worth), 0, 0, v)
			}
		}
	}
}

// P13.1: parts at MaxPart are right, one beyond is too great, either way and in either part; what lies beside the ghost doesn't count, nor does a product that is too great by itself.
func TestHauntBig(t *testing.T) {
	const most = api.MaxPart
	one := filled(1, 1, 1)
	for _, c := range []struct {
		cell, worth, v complex128
		big            bool
	}{
		{most, 1, 0, false}, {most, 0, 1, false}, {most, 1, -1, false}, {most, 1, 1i, false}, {most, 1, 1, true}, {most - 1, 1, 1, false}, {most - 1, 1, 2, true},
		{-most, 1, -1, true}, {1 - most, 1, -1, false}, {-most, 1, 1, false}, {1 - most, -1, 2, true},
		{complex(0, most), 1, 1, false}, {complex(0, most), 1, 1i, true}, {complex(0, most), 1i, 1, true}, {complex(0, most-1), 1i, 1, false}, {complex(0, -most), 1i, -1, true}, {complex(0, 1-most), 1, -1i, false}, {complex(0, -most), 1, -1i, true},
		{complex(most, -most), 1, 0, false}, {complex(most, -most), 1, -1 + 1i, false}, {complex(most, -most), 1, 1 + 1i, true}, {complex(most, -most), 1, -1 - 1i, true},
		{0, 65536, 16, false}, {0, 65536, 17, true}, {1, 65536, 16, true}, {0, 65536i, 16i, false}, {-1, 65536i, 16i, true}, {0, 65536i, 16, false}, {0, 16, -65536, false}, {0, 17, -65536, true},
		{most, 65536, -32, false}, {most, 65536, -33, true}, {-most, 32, 65536, false}, {complex(0, most), -65536i, 32, false}, {complex(-most, most), 65536 - 65536i, 32, false},
		{0, complex(65536, 65536), complex(65536, 65536), true}, {0, complex(65536, -65536), complex(65536, 65536), true}, {0, complex(-65536, 65536), complex(65536, 65536), true},
	} {
		g := api.Grid{N: 1, Cells: []complex128{c.cell}}
		if e := checkHaunt(t, g, filled(1, 1, c.worth), 0, 0, c.v); (e == api.ErrBig) != c.big {
			t.Errorf("%v: error %d", c, e)
		}
		// The same at each place of a greater ghost, in a greater grid.
		for place := range 4 {
			g := sample.With(sample.Filled(3, 0), 4+place/2*3+place%2, c.cell)
			h := with(filled(2, 2, 0), place, c.worth)
			if e := checkHaunt(t, g, h, 1, 1, c.v); (e == api.ErrBig) != c.big {
				t.Errorf("%v, place %d: error %d", c, place, e)
			}
		}
	}
	for place := 1; place < 4; place++ {
		out, e := ghost.Haunt(sample.With(sample.Filled(2, 0), place, most), one, 0, 0, 1)
		checkGrid(t, "Haunt beside it", right(t, out, e), sample.With(sample.With(sample.Filled(2, 0), place, most), 0, 1))
	}
}

// P13.1: places that are none, up to the ends of int, where what is reckoned with them could go round.
func TestHauntNoPlaces(t *testing.T) {
	for _, n := range []int{1, 3, 64} {
		g := sample.Numbered(n)
		for _, h := range []api.Ghost{filled(1, 1, 1), filled(n, n, 1), filled(1, n, 1), filled(n, 1, 0)} {
			far := append(sample.Ends(), -n, -1, n-h.W+1, n-h.H+1, n, n+1, 64, 65, math.MaxInt-h.W+1, math.MinInt+h.H-1)
			for _, a := range far {
				for _, v := range []complex128{0, 1} {
					for _, b := range []int{0, a, -1} {
						if a < 0 || a > n-h.W {
							out, e := ghost.Haunt(g, h, a, b, v)
							refused(t, "Haunt", noGrid(out), e, api.ErrArg)
						}
						if a < 0 || a > n-h.H {
							out, e := ghost.Haunt(g, h, b, a, v)
							refused(t, "Haunt", noGrid(out), e, api.ErrArg)
						}
					}
				}
			}
		}
	}
	// A ghost that is greater than the grid fits in nowhere.
	for _, s := range [][2]int{{3, 1}, {1, 3}, {3, 3}, {64, 64}} {
		for x := -3; x <= 3; x++ {
			for y := -3; y <= 3; y++ {
				out, e := ghost.Haunt(sample.Filled(2, 0), filled(s[0], s[1], 0), x, y, 1)
				refused(t, "Haunt", noGrid(out), e, api.ErrArg)
			}
		}
	}
}

// P13.1: v of 65536 in either part and with either sign is right, and so is each worth; others aren't, also by a ghost of noughts.
func TestHauntValues(t *testing.T) {
	for _, v := range sample.Worths() {
		checkHaunt(t, sample.Filled(2, 1), of(t, api.Dir{P: 1}), 0, 1, v)
		checkHaunt(t, sample.Grids(2)[5], filled(2, 2, 16i), 0, 0, v)
	}
	for _, v := range sample.NoWorths() {
		for _, h := range []api.Ghost{filled(1, 1, 1), filled(2, 2, 0), of(t, api.Dir{P: -1, Q: 1})} {
			out, e := ghost.Haunt(sample.Filled(2, 0), h, 0, 0, v)
			refused(t, "Haunt by no such value", noGrid(out), e, api.ErrArg)
			out, e = ghost.Haunt(sample.Filled(2, api.MaxPart), h, 0, 0, v)
			refused(t, "Haunt by no such value", noGrid(out), e, api.ErrArg)
		}
	}
}

// P13.1: the errors in their order where several fit.
func TestHauntErrorsInOrder(t *testing.T) {
	full, one := sample.Filled(2, api.MaxPart), filled(1, 1, 1)
	wrongs := []complex128{1, 0.5, complex(sample.MinusNought(), 0), complex(math.NaN(), 0), api.MaxWorth + 1}
	for k, g := range sample.NoGrids() {
		for _, h := range []api.Ghost{one, filled(64, 64, 1), {}, {W: 1, H: 1}, filled(1, 1, 0.5)} {
			out, e := ghost.Haunt(g, h, k%3-1, 0, wrongs[k%5])
			refused(t, "Haunt of no sound grid", noGrid(out), e, api.ErrGrid)
		}
	}
	for k, h := range noGhosts() {
		for _, g := range []api.Grid{full, sample.Filled(64, -5i)} {
			out, e := ghost.Haunt(g, h, k%3-1, k%2, wrongs[k%5])
			refused(t, "Haunt by no sound ghost", noGrid(out), e, api.ErrGhost)
			out, e = ghost.Haunt(g, h, 0, 0, 1)
			refused(t, "Haunt by no sound ghost", noGrid(out), e, api.ErrGhost)
		}
	}
	for _, v := range wrongs {
		for _, x := range []int{-1, 2} {
			out, e := ghost.Haunt(full, one, x, 0, v)
			refused(t, "Haunt beside the grid", noGrid(out), e, api.ErrArg)
			out, e = ghost.Haunt(full, one, 1, x, v)
			refused(t, "Haunt beside the grid", noGrid(out), e, api.ErrArg)
		}
	}
	// Too great within the grid, and not wholly within it.
	out, e := ghost.Haunt(full, filled(2, 1, 1), 1, 0, 1)
	refused(t, "Haunt across the edge", noGrid(out), e, api.ErrArg)
	out, e = ghost.Haunt(full, filled(2, 1, 1), 0, 0, 1)
	refused(t, "Haunt", noGrid(out), e, api.ErrBig)
}
