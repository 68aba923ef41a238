package closed_test

import (
	"testing"

	"penumbra/api"
	"penumbra/closed"
	"penumbra/sample"
)

// P10.1: each bin by the rules.
func TestChord(t *testing.T) {
	for _, n := range []int{1, 2, 3, 13, 64} {
		for _, p := range sample.AllPhantoms(n) {
			all := cells(p)
			for _, d := range dirs(n) {
				for bin, want := range projected(n, all, d).Bins {
					if v, e := closed.Chord(p, d, bin); !sample.Agree(right(t, v, e), want) {
						t.Fatalf("%v along %v, bin %d: %v, not %v", p, d, bin, v, want)
					}
				}
			}
		}
	}
}

// noBins: numbers that none of so many bins has.
func noBins(many int) []int {
	return append(sample.Ends(), -many, -2, -1, many, many+1, 2*many, many+1<<32)
}

// P10.1: what is no sound phantom is told ahead of what is no direction, that ahead of what is no bin, also where there is no shape to be asked.
func TestChordRefused(t *testing.T) {
	good, none := sample.Dirs(), sample.NoDirs()
	for i, f := range sample.Flaws() {
		for _, d := range []api.Dir{{P: 1}, {}, good[i%len(good)], none[i%len(none)]} {
			for _, bin := range []int{0, -1, 4096} {
				v, e := closed.Chord(f.Phantom, d, bin)
				refused(t, "Chord of no phantom", sample.Agree(v, 0), e, f.Want)
			}
		}
	}
	for _, n := range sample.Sides() {
		for _, p := range []api.Phantom{{N: n}, sample.Phantom(n, sample.Many(16)...), sample.Bare(n)} {
			for _, d := range none {
				for _, bin := range []int{0, -1, n, 4096} {
					v, e := closed.Chord(p, d, bin)
					refused(t, "Chord along no direction", sample.Agree(v, 0), e, api.ErrDir)
				}
			}
			for _, d := range dirs(n) {
				for _, bin := range noBins(bins(n, d)) {
					v, e := closed.Chord(p, d, bin)
					refused(t, "Chord of no bin", sample.Agree(v, 0), e, api.ErrArg)
				}
			}
		}
	}
}

// P10.1: sums over the cells, by the rules.
func TestMoment(t *testing.T) {
	for _, n := range sample.Sides() {
		for _, p := range append(sample.AllPhantoms(n), sample.AnyPhantoms(n+64, 30)...) {
			p.N = n
			mx, my := moments(n, cells(p))
			if x, y, e := closed.Moment(p); e != api.OK || !sameMoments(x, y, mx, my) {
				t.Fatalf("%v: %v, %v, not %v, %v, error %d", p, x, y, mx, my, e)
			}
		}
	}
}

// P10.1: each cell alone, so that rows don't stand for columns, nor the last for the first.
func TestMomentOfOneCell(t *testing.T) {
	for _, n := range []int{1, 2, 5, 64} {
		for cell := range n * n {
			x, y := cell%n, cell/n
			mx, my, e := closed.Moment(sample.Phantom(n, sample.Rect(x, y, 1, 1, -3+1i)))
			if e != api.OK || !sameMoments(mx, my, pair{-3, 1}.times(x), pair{-3, 1}.times(y)) {
				t.Fatalf("side %d, the cell (%d, %d): %v, %v, error %d", n, x, y, mx, my, e)
			}
		}
	}
	for _, n := range sample.Sides() {
		if x, y, e := closed.Moment(api.Phantom{N: n}); e != api.OK || !sameMoments(x, y, pair{}, pair{}) {
			t.Errorf("side %d, no shape: %v, %v, error %d", n, x, y, e)
		}
	}
}

// P10.1: what is no sound phantom.
func TestMomentRefused(t *testing.T) {
	for _, f := range sample.Flaws() {
		x, y, e := closed.Moment(f.Phantom)
		refused(t, "Moment of no phantom", sameMoments(x, y, pair{}, pair{}), e, f.Want)
	}
}
