package motion_test

import (
	"testing"

	"penumbra/api"
	"penumbra/motion"
	"penumbra/ray"
	"penumbra/sample"
)

// still: what layer 9 tells of a grid that doesn't move.
func still(t *testing.T, g api.Grid, dirs []api.Dir) api.Sino {
	t.Helper()
	s, e := ray.All(g, dirs, 4)
	if e != api.OK {
		t.Fatalf("error %d", e)
	}
	return s
}

// take: what must be seen.
func take(t *testing.T, g api.Grid, dirs []api.Dir, steps []api.Step) api.Sino {
	t.Helper()
	s, e := motion.Take(g, dirs, steps)
	if e != api.OK {
		t.Fatalf("%s: error %d", about(g.N, dirs, steps), e)
	}
	return s
}

// P20.2: the motion taken in and taken out again leaves what is told of the grid that didn't move, at every side, with any steps that lose nothing.
func TestMotionTakenOut(t *testing.T) {
	d := sample.Dice(217)
	unlike := 0
	for n := 1; n <= 64; n++ {
		for _, dirs := range lists(n, &d) {
			for _, g := range grids(n, &d) {
				steps := d.Walk(g, len(dirs))
				seen, want := take(t, g, dirs, steps), still(t, g, dirs)
				if !sample.SameSino(seen, want) {
					unlike++
				}
				checkUndo(t, seen, steps, want, api.OK)
			}
		}
	}
	if unlike < 500 {
		t.Errorf("only %d of them are seen to move", unlike)
	}
}

// P20.2: likewise of a grid of one cell, that goes everywhere.
func TestOneCellEverywhere(t *testing.T) {
	d := sample.Dice(218)
	for n := 1; n <= 6; n++ {
		for place := range n * n {
			g := dot(n, place%n, place/n, 9-4i)
			for to := range n * n {
				step := api.Step{X: to%n - place%n, Y: to/n - place/n}
				dirs := d.Picked(sample.Wheel(), 5)
				seen := take(t, g, dirs, sample.Same(step, 5))
				if !sample.SameSino(seen, still(t, dot(n, to%n, to/n, 9-4i), dirs)) {
					t.Fatalf("side %d: from %d to %d: not seen there", n, place, to)
				}
				checkUndo(t, seen, sample.Same(step, 5), still(t, g, dirs), api.OK)
			}
		}
	}
}

// The chapter's words: a grid moved by (X, Y) has the same bins along a direction, moved on by Q*X - P*Y, as Slide moves them, and Drift tells it, where a bin isn't 0.
func TestBinsMoveOn(t *testing.T) {
	d := sample.Dice(219)
	told := 0
	for n := 1; n <= 64; n += 1 + n/5 {
		for _, dirs := range lists(n, &d) {
			for _, g := range grids(n, &d) {
				steps := d.Walk(g, len(dirs))
				seen := take(t, g, dirs, steps)
				for i, p := range still(t, g, dirs).Projs {
					by := p.Dir.Q*steps[i].X - p.Dir.P*steps[i].Y
					checkSlide(t, n, p, by, seen.Projs[i], api.OK)
					if likeNumbers(p.Bins, make([]complex128, len(p.Bins))) {
						by = 0
					} else {
						told++
					}
					checkDrift(t, p, seen.Projs[i], by, true)
				}
			}
		}
	}
	if told < 1000 {
		t.Errorf("only %d of them have a bin that isn't 0", told)
	}
}

// somethings: projections that have a bin that isn't 0, all of them finite, some with room at their ends.
func somethings(n int, along api.Dir, d *sample.Dice) []api.Proj {
	many := sample.BinCount(n, along)
	var out []api.Proj
	for _, part := range []func() float64{d.UpTo(9), d.UpTo(api.MaxBin), d.Near, d.Between(-1074, 1024), d.Tiny, d.UpTo(1)} {
		for range 3 {
			bins := edged(many, d, part)
			bins[d.Number(many-1)] = complex(part(), 1)
			out = append(out, api.Proj{Dir: along, Bins: bins})
		}
	}
	return out
}

// P20.3: there and back is none, but that noughts which were out have no sign; and Drift tells how far it went.
func TestThereAndBack(t *testing.T) {
	d := sample.Dice(220)
	moved := 0
	for _, n := range []int{1, 2, 3, 4, 8, 17, 64} {
		for i, along := range sample.Dirs() {
			if n > 16 && i%5 != 0 {
				continue
			}
			for _, p := range somethings(n, along, &d) {
				many := len(p.Bins)
				for _, k := range append(shoves(many), d.Number(many), -d.Number(many), 3, -3, 4, -4, many/4, -many/4) {
					there, e := motion.Slide(n, p, k)
					if e != api.OK {
						continue
					}
					if k != 0 {
						moved++
					}
					checkDrift(t, p, there, k, true)
					checkDrift(t, there, p, -k, true)
					back, e := motion.Slide(n, there, -k)
					want := api.Proj{Dir: along}
					for bin, v := range p.Bins {
						if bin+k < 0 || bin+k >= many {
							v = 0
						}
						want.Bins = append(want.Bins, v)
					}
					sameProj(t, "there and back", back, e, want, api.OK)
					if !likeNumbers(back.Bins, p.Bins) {
						t.Fatalf("by %d and back: other numbers", k)
					}
				}
			}
		}
	}
	if moved < 1000 {
		t.Errorf("only %d of them have moved", moved)
	}
}

// P20.3: steps (0, 0) change nothing, neither taken in nor taken out, and bins moved on by 0 are themselves, bit by bit.
func TestNoSteps(t *testing.T) {
	d := sample.Dice(221)
	for _, n := range sample.Sides() {
		for i, g := range sample.Grids(n) {
			dirs := sample.DirLists()[i%11]
			checkTake(t, g, dirs, sample.Same(api.Step{}, len(dirs)), still(t, g, dirs), api.OK)
		}
		for _, s := range sample.Sinos(n) {
			checkUndo(t, s, sample.Same(api.Step{}, len(s.Projs)), s, api.OK)
		}
		for _, list := range bins(sample.BinCount(n, api.Dir{P: -3, Q: 5}), &d) {
			p := api.Proj{Dir: api.Dir{P: -3, Q: 5}, Bins: list}
			checkSlide(t, n, p, 0, p, api.OK)
		}
	}
}
