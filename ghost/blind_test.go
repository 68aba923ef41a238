package ghost_test

import (
	"testing"

	"penumbra/api"
	"penumbra/ghost"
	"penumbra/sample"
)

// checkBlind: is it what a walk along the lines tells?
func checkBlind(t *testing.T, h api.Ghost, d api.Dir) bool {
	t.Helper()
	blind, e := ghost.Blind(h, d)
	if right(t, blind, e) != unseen(h, d) {
		t.Fatalf("%d by %d, %v, along %v: %v", h.W, h.H, h.Cells, d, blind)
	}
	return blind
}

// P13.1: ghosts along every direction, theirs and others.
func TestBlind(t *testing.T) {
	seen := 0
	for k, dirs := range lists() {
		h, e := ghost.Make(dirs)
		if e != api.OK || k%4 != 0 && len(dirs) == 1 {
			continue
		}
		for at, d := range sample.Wheel() {
			if len(h.Cells) > 200 && at%10 != 0 {
				continue
			}
			if !checkBlind(t, h, d) {
				seen++
			}
		}
	}
	if seen < 1000 {
		t.Errorf("the samples are too much alike: %d are seen", seen)
	}
	for _, s := range sizes() {
		for _, h := range ghosts(s[0], s[1]) {
			for _, d := range append(sample.Dirs(), sample.Short()...) {
				checkBlind(t, h, d)
			}
		}
	}
}

// P13.1: answers that are written out: one cell, one row, one column, noughts alone, cells that cancel out on some lines only, steps beyond the sides.
func TestBlindWrittenOut(t *testing.T) {
	across, down, steep, far := api.Dir{P: 1}, api.Dir{Q: 1}, api.Dir{P: -1, Q: 1}, api.Dir{P: 16, Q: 15}
	some := api.Ghost{W: 3, H: 2, Cells: []complex128{1 - 2i, 0, -1 + 2i, 3, -3, 1}}
	for _, c := range []struct {
		h    api.Ghost
		d    api.Dir
		want bool
	}{
		{filled(1, 1, 1), across, false}, {filled(1, 1, -1i), far, false}, {filled(1, 1, 0), across, true}, {filled(1, 1, 0), far, true},
		{filled(64, 64, 0), down, true}, {filled(64, 64, 0), far, true}, {with(filled(64, 64, 0), 4095, 1i), far, false}, {with(filled(64, 64, 0), 0, -1), across, false},
		{api.Ghost{W: 3, H: 1, Cells: []complex128{2, -3, 1}}, across, true}, {api.Ghost{W: 3, H: 1, Cells: []complex128{2, -3, 1}}, down, false}, {api.Ghost{W: 3, H: 1, Cells: []complex128{2, -3, 1}}, api.Dir{P: 2, Q: 1}, false}, {api.Ghost{W: 3, H: 1, Cells: []complex128{2, -3, 2}}, across, false},
		{api.Ghost{W: 1, H: 3, Cells: []complex128{2i, -3i, 1i}}, down, true}, {api.Ghost{W: 1, H: 3, Cells: []complex128{2i, -3i, 1i}}, across, false}, {api.Ghost{W: 1, H: 3, Cells: []complex128{2i, -3i, 1}}, down, false}, {api.Ghost{W: 1, H: 3, Cells: []complex128{1, 0, -1}}, api.Dir{P: 1, Q: 2}, false},
		{some, across, false}, {some, down, false}, {api.Ghost{W: 3, H: 2, Cells: []complex128{1, 0, -1, 3, -3, 0}}, across, true}, {api.Ghost{W: 3, H: 2, Cells: []complex128{1, 0, -1, 3, -3, 1}}, across, false}, {api.Ghost{W: 3, H: 2, Cells: []complex128{1, 0, 1, 3, -3, 0}}, across, false},
		{api.Ghost{W: 2, H: 2, Cells: []complex128{0, 1, -1, 0}}, steep, true}, {api.Ghost{W: 2, H: 2, Cells: []complex128{0, 1, -1, 0}}, api.Dir{P: 1, Q: 1}, false}, {api.Ghost{W: 2, H: 2, Cells: []complex128{1, 0, 0, -1}}, steep, false}, {api.Ghost{W: 2, H: 2, Cells: []complex128{1, 0, 0, -1}}, api.Dir{P: 1, Q: 1}, true},
		// The real parts cancel out, the others don't, and the other way round.
		{api.Ghost{W: 2, H: 1, Cells: []complex128{1 + 1i, -1 + 1i}}, across, false}, {api.Ghost{W: 2, H: 1, Cells: []complex128{1 + 1i, 1 - 1i}}, across, false}, {api.Ghost{W: 2, H: 1, Cells: []complex128{1 + 1i, -1 - 1i}}, across, true},
		// All cells together are 0, no line is.
		{api.Ghost{W: 2, H: 2, Cells: []complex128{1, 1, -1, -1}}, across, false}, {api.Ghost{W: 2, H: 2, Cells: []complex128{1, 1, -1, -1}}, down, true},
		// (2, 1) leads past the cell between.
		{api.Ghost{W: 3, H: 2, Cells: []complex128{1, 0, 0, 0, 0, -1}}, api.Dir{P: 2, Q: 1}, true}, {api.Ghost{W: 3, H: 2, Cells: []complex128{1, 0, 0, 0, -1, 0}}, api.Dir{P: 2, Q: 1}, false}, {api.Ghost{W: 3, H: 3, Cells: []complex128{1, 0, 0, 0, -1, 0, 0, 0, 0}}, api.Dir{P: 1, Q: 2}, false},
		{of(t, far), far, true}, {of(t, far), api.Dir{P: 15, Q: 16}, false}, {of(t, across, down), far, false},
	} {
		if checkBlind(t, c.h, c.d) != c.want {
			t.Errorf("%d by %d, %v, along %v: %v", c.h.W, c.h.H, c.h.Cells, c.d, !c.want)
		}
	}
}

// P13.1: the greatest sums, which cancel out but for 1, in the last cell and in the first.
func TestBlindGreatest(t *testing.T) {
	h := filled(64, 64, complex(api.MaxWorth, -api.MaxWorth))
	for place := 1; place < 4096; place += 2 {
		h.Cells[place] = complex(-api.MaxWorth, api.MaxWorth)
	}
	across := api.Dir{P: 1}
	if !checkBlind(t, h, across) || checkBlind(t, h, api.Dir{Q: 1}) {
		t.Error("columns of one value, rows of two by turns")
	}
	for _, place := range []int{0, 64, 4095} {
		if checkBlind(t, with(h, place, h.Cells[place]*(1-0x1p-16)), across) {
			t.Errorf("cell %d is 1 less", place)
		}
	}
}

// P13.1: what is no direction.
func TestBlindNoDirs(t *testing.T) {
	for _, h := range []api.Ghost{filled(1, 1, 0), filled(1, 1, 1), of(t, sample.Short()[:4]...), filled(64, 64, 0)} {
		for _, d := range sample.NoDirs() {
			blind, e := ghost.Blind(h, d)
			refused(t, "Blind along none", !blind, e, api.ErrDir)
		}
	}
}
