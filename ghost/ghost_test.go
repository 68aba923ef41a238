package ghost_test

import (
	"slices"
	"testing"

	"penumbra/api"
	"penumbra/ghost"
	"penumbra/sample"
)

// P13.1: the chapter's examples.
func TestExamples(t *testing.T) {
	for _, c := range []struct {
		dirs []api.Dir
		want api.Ghost
	}{
		{nil, api.Ghost{W: 1, H: 1, Cells: []complex128{1}}},
		{[]api.Dir{{P: 1}}, api.Ghost{W: 2, H: 1, Cells: []complex128{1, -1}}},
		{[]api.Dir{{P: 1}, {Q: 1}}, api.Ghost{W: 2, H: 2, Cells: []complex128{1, -1, -1, 1}}},
		{[]api.Dir{{P: -1, Q: 1}}, api.Ghost{W: 2, H: 2, Cells: []complex128{0, 1, -1, 0}}},
	} {
		checkGhost(t, c.dirs, of(t, c.dirs...), c.want)
	}
	fits, e := ghost.Fits(2, []api.Dir{{P: 1}, {Q: 1}})
	if !right(t, fits, e) {
		t.Error("Fits(2, (1, 0) (0, 1))")
	}
	if fits, e = ghost.Fits(1, []api.Dir{{P: 1}}); right(t, fits, e) {
		t.Error("Fits(1, (1, 0))")
	}
	second := of(t, api.Dir{P: 1})
	g, e := ghost.Haunt(sample.Filled(2, 0), second, 0, 1, 5)
	checkGrid(t, "Haunt", right(t, g, e), api.Grid{N: 2, Cells: []complex128{0, 0, 5, -5}})
	g, e = ghost.Haunt(sample.Filled(2, 0), second, 1, 0, 5)
	refused(t, "Haunt at (1, 0)", noGrid(g), e, api.ErrArg)
}

// P13.1: ghosts that are written out: steps to the right, to the left and straight down, copies that meet, and lines that lie far apart.
func TestMakeWrittenOut(t *testing.T) {
	for _, c := range []struct {
		dirs []api.Dir
		want api.Ghost
	}{
		{[]api.Dir{{Q: 1}}, api.Ghost{W: 1, H: 2, Cells: []complex128{1, -1}}},
		{[]api.Dir{{P: 1, Q: 1}}, api.Ghost{W: 2, H: 2, Cells: []complex128{1, 0, 0, -1}}},
		{[]api.Dir{{P: 3, Q: 2}}, api.Ghost{W: 4, H: 3, Cells: []complex128{1, 0, 0, 0, 0, 0, 0, 0, 0, 0, 0, -1}}},
		{[]api.Dir{{P: -2, Q: 1}}, api.Ghost{W: 3, H: 2, Cells: []complex128{0, 0, 1, -1, 0, 0}}},
		{[]api.Dir{{P: -1, Q: 3}}, api.Ghost{W: 2, H: 4, Cells: []complex128{0, 1, 0, 0, 0, 0, -1, 0}}},
		{[]api.Dir{{P: 1, Q: 1}, {P: -1, Q: 1}}, api.Ghost{W: 3, H: 3, Cells: []complex128{0, 1, 0, -1, 0, -1, 0, 1, 0}}},
		{[]api.Dir{{P: -1, Q: 1}, {P: 1}}, api.Ghost{W: 3, H: 2, Cells: []complex128{0, 1, -1, -1, 1, 0}}},
		// The copies meet at (1, 1): 1 of the first, 1 of the second turned.
		{[]api.Dir{{P: 1}, {Q: 1}, {P: 1, Q: 1}}, api.Ghost{W: 3, H: 3, Cells: []complex128{1, -1, 0, -1, 0, 1, 0, 1, -1}}},
		{[]api.Dir{{P: 1}, {Q: 1}, {P: -1, Q: 1}}, api.Ghost{W: 3, H: 3, Cells: []complex128{0, 1, -1, -1, 0, 1, 1, -1, 0}}},
		{[]api.Dir{{P: 1}, {Q: 1}, {P: 1, Q: 1}, {P: -1, Q: 1}}, api.Ghost{W: 4, H: 4, Cells: []complex128{0, 1, -1, 0, -1, 0, 0, 1, 1, 0, 0, -1, 0, -1, 1, 0}}},
	} {
		checkGhost(t, c.dirs, of(t, c.dirs...), c.want)
	}
}

// P13.1: every direction alone, and lists of two to eight, held against the copies laid over one another.
func TestMake(t *testing.T) {
	sound := 0
	for _, dirs := range lists() {
		want, wrong := made(dirs)
		h, e := ghost.Make(dirs)
		if wrong != api.OK {
			refused(t, "Make", noGhost(h), e, wrong)
			continue
		}
		checkGhost(t, dirs, right(t, h, e), want)
		checkGhost(t, dirs, h, bySubsets(dirs))
		if len(dirs) > 4 {
			sound++
		}
	}
	if sound < 50 {
		t.Errorf("the samples are too great: %d ghosts of many directions", sound)
	}
}

// P13.1: W and H of just 64 are right, of 65 too great, and so are those far beyond.
func TestMakeEdges(t *testing.T) {
	for sum := 49; sum <= 63; sum++ {
		for _, dirs := range [][]api.Dir{wide(sum), high(sum)} {
			h := of(t, dirs...)
			if max(h.W, h.H) != sum+1 || min(h.W, h.H) >= 40 {
				t.Fatalf("%v: %d by %d", dirs, h.W, h.H)
			}
			want, _ := made(dirs)
			checkGhost(t, dirs, h, want)
		}
	}
	square := []api.Dir{{P: 16, Q: 15}, {P: 15, Q: 16}, {P: -16, Q: 15}, {P: -15, Q: 16}, {P: 1}, {Q: 1}}
	if h := of(t, square...); h.W != 64 || h.H != 64 {
		t.Fatalf("%v: %d by %d", square, h.W, h.H)
	}
	for _, dirs := range [][]api.Dir{
		wide(64), high(64), append(square, api.Dir{P: 1, Q: 1}), append(wide(63), api.Dir{P: -2, Q: 1}), append(high(63), api.Dir{P: -1, Q: 2}), append(wide(63), api.Dir{P: 1}), append(high(63), api.Dir{Q: 1}),
		{{P: 16, Q: 1}, {P: -16, Q: 1}, {P: 16, Q: 3}, {P: -16, Q: 3}, {P: 16, Q: 5}, {P: -16, Q: 5}, {P: 16, Q: 7}, {P: -16, Q: 7}},
		{{P: 1, Q: 16}, {P: -1, Q: 16}, {P: 3, Q: 16}, {P: -3, Q: 16}, {P: 5, Q: 16}, {P: -5, Q: 16}, {P: 7, Q: 16}, {P: -7, Q: 16}},
		{{P: 16, Q: 15}, {P: -16, Q: 15}, {P: 15, Q: 16}, {P: -15, Q: 16}, {P: 16, Q: 13}, {P: -16, Q: 13}, {P: 13, Q: 16}, {P: -13, Q: 16}},
	} {
		h, e := ghost.Make(dirs)
		refused(t, "Make of too many steps", noGhost(h), e, api.ErrBig)
	}
	// One more step straight down is right where the way across is full, and the other way round.
	of(t, append(wide(63), api.Dir{Q: 1})...)
	of(t, append(high(63), api.Dir{P: 1})...)
}

// P13.1: more than eight, whatever else is wrong with them.
func TestMakeTooMany(t *testing.T) {
	one, none := api.Dir{P: 1}, api.Dir{P: 2, Q: 2}
	nine := sample.Short()[:9]
	for _, dirs := range [][]api.Dir{
		nine, sample.Short(), sample.Wheel(), sample.Wheel()[:9], make([]api.Dir, 9), make([]api.Dir, 70000), append(sample.Short()[:8:8], none), append([]api.Dir{none}, sample.Short()[:8]...), append(sample.Short()[:8:8], one), {one, one, one, one, one, one, one, one, one}, sample.Dirs(), sample.NoDirs(),
		slices.Concat(wide(64), high(64), []api.Dir{one}),
	} {
		h, e := ghost.Make(dirs)
		refused(t, "Make of more than eight", noGhost(h), e, api.ErrLong)
	}
	// What stands in the room behind the list is not in it.
	if h, e := ghost.Make(nine[:8]); noGhost(right(t, h, e)) {
		t.Error("no ghost of eight")
	}
}

// P13.1: what is no direction, and what stands twice, at every place of the list; the first fault is told, ahead of too many steps.
func TestMakeRefused(t *testing.T) {
	great := append(wide(64), high(64)...)
	for many := 1; many <= 8; many++ {
		for _, dirs := range [][]api.Dir{sample.Short()[:many], great[:many], sample.Dirs()[8 : 8+many]} {
			for at := range many {
				for k, d := range sample.NoDirs() {
					if k%7 == (at+many)%7 {
						faulty(t, replaced(dirs, at, d), api.ErrDir)
					}
				}
				faulty(t, replaced(dirs, at, api.Dir{}), api.ErrDir)
				for ahead := range at {
					twice := replaced(dirs, at, dirs[ahead])
					faulty(t, twice, api.ErrTwice)
					for other := range many {
						if other != at && other != ahead {
							faulty(t, replaced(twice, other, api.Dir{P: -1, Q: -1}), listed(replaced(twice, other, api.Dir{P: -1, Q: -1})))
						}
					}
				}
			}
		}
	}
	one, other, none := api.Dir{P: 1}, api.Dir{P: -3, Q: 2}, api.Dir{P: 4, Q: 6}
	faulty(t, []api.Dir{one, one, none}, api.ErrTwice)
	faulty(t, []api.Dir{none, one, one}, api.ErrDir)
	faulty(t, []api.Dir{one, none, one}, api.ErrDir)
	faulty(t, []api.Dir{none, none}, api.ErrDir)
	faulty(t, []api.Dir{one, other, one, none, none}, api.ErrTwice)
}

// replaced: the list, but for one place.
func replaced(dirs []api.Dir, at int, d api.Dir) []api.Dir {
	out := slices.Clone(dirs)
	out[at] = d
	return out
}

// faulty: Make and Fits tell that of the list.
func faulty(t *testing.T, dirs []api.Dir, want api.Errno) {
	t.Helper()
	h, e := ghost.Make(dirs)
	refused(t, "Make", noGhost(h), e, want)
	for _, n := range []int{1, 17, 64} {
		fits, e := ghost.Fits(n, dirs)
		refused(t, "Fits", !fits, e, want)
	}
	for _, n := range []int{0, 65} {
		fits, e := ghost.Fits(n, dirs)
		refused(t, "Fits of no side", !fits, e, api.ErrArg)
	}
}

// P13.1: what is sound: all sizes that may be, and all worths.
func TestCheck(t *testing.T) {
	for w := 1; w <= 64; w++ {
		for _, h := range []int{1, 2, 63, 64, 65 - w} {
			if e := ghost.Check(filled(w, h, 1-1i)); e != api.OK {
				t.Errorf("%d by %d: error %d", w, h, e)
			}
		}
	}
	for _, s := range sizes() {
		for _, h := range ghosts(s[0], s[1]) {
			if e := ghost.Check(h); e != api.OK {
				t.Errorf("%v: error %d", s, e)
			}
		}
	}
	for k, v := range sample.Worths() {
		s := sizes()[k%len(sizes())]
		if e := ghost.Check(with(filled(s[0], s[1], 7i), k%(s[0]*s[1]), v)); e != api.OK {
			t.Errorf("a cell %v: error %d", v, e)
		}
	}
	for _, dirs := range lists() {
		if h, e := ghost.Make(dirs); e == api.OK && ghost.Check(h) != api.OK {
			t.Errorf("the ghost of %v is not sound", dirs)
		}
	}
}

// P13.1: what isn't.
func TestNoGhosts(t *testing.T) {
	for _, h := range noGhosts() {
		if e := ghost.Check(h); e != api.ErrGhost {
			t.Fatalf("%d by %d, %d cells: error %d", h.W, h.H, len(h.Cells), e)
		}
		for _, d := range []api.Dir{{P: 1}, {P: -3, Q: 2}, {}, {P: 2, Q: 2}} {
			blind, e := ghost.Blind(h, d)
			refused(t, "Blind of no sound ghost", !blind, e, api.ErrGhost)
		}
	}
}

// P13.1: Fits at each n, of no direction, of one, of more than eight, of all.
func TestFits(t *testing.T) {
	more := append(lists(), sample.Short(), sample.Dirs(), sample.Wheel(), sample.Wheel()[:20], sample.Wheel()[:64], sample.Wheel()[100:])
	for _, dirs := range more {
		across, down := stepped(dirs)
		for n := 1; n <= 64; n++ {
			if fits, e := ghost.Fits(n, dirs); right(t, fits, e) != (across+1 <= n && down+1 <= n) {
				t.Fatalf("%v in a side of %d: %v", dirs, n, fits)
			}
		}
	}
}

// P13.1: no side of a grid, told ahead of every other fault.
func TestFitsNoSides(t *testing.T) {
	for _, n := range sample.NoSides() {
		for _, dirs := range [][]api.Dir{nil, {}, {{P: 1}}, {{}}, {{P: 1}, {P: 1}}, {{P: -1 << 63, Q: 1}}, sample.Short(), sample.NoDirs(), sample.Wheel()} {
			fits, e := ghost.Fits(n, dirs)
			refused(t, "Fits of no side", !fits, e, api.ErrArg)
		}
	}
}

// P13.1: faults wherever they stand in a long list, also behind directions that are too great for the side.
func TestFitsRefused(t *testing.T) {
	all := sample.Wheel()
	for _, n := range []int{1, 2, 64} {
		for _, d := range sample.NoDirs() {
			for _, dirs := range [][]api.Dir{{d}, {all[3], d, all[3]}, append(all[:30:30], d), append(slices.Clone(all), d, all[0])} {
				fits, e := ghost.Fits(n, dirs)
				refused(t, "Fits", !fits, e, api.ErrDir)
			}
		}
		for at, d := range all {
			fits, e := ghost.Fits(n, append(slices.Clone(all), d))
			refused(t, "Fits of all and one of them", !fits, e, api.ErrTwice)
			if at > 0 {
				fits, e = ghost.Fits(n, append(all[:at:at], all[at-1], api.Dir{}))
				refused(t, "Fits of two that are one, and one that is none", !fits, e, api.ErrTwice)
			}
		}
	}
}
