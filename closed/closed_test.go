package closed_test

import (
	"testing"

	"penumbra/api"
	"penumbra/closed"
	"penumbra/sample"
)

// P10.1: the chapter's examples.
func TestExamples(t *testing.T) {
	p, d := example(), api.Dir{Q: 1}
	if q, e := closed.Project(p, d); !sample.SameProj(right(t, q, e), api.Proj{Dir: d, Bins: []complex128{4, 12 - 2i, 10 - 2i, 0}}) {
		t.Errorf("Project: %v", q)
	}
	if v, e := closed.Chord(p, d, 2); right(t, v, e) != 10-2i {
		t.Errorf("Chord: %v", v)
	}
	v, e := closed.Chord(p, d, 4)
	refused(t, "Chord of bin 4", v == 0, e, api.ErrArg)
	if x, y, e := closed.Moment(p); e != api.OK || x != 32-6i || y != 32-6i {
		t.Errorf("Moment: %v, %v, error %d", x, y, e)
	}
}

// P10.1: projections that are written out, with bins on which no cell lies; parts that cancel out are +0.
func TestProjectWrittenOut(t *testing.T) {
	// 0 -5+2i -5+2i / 5 2i 0 / 0 0 7i
	three := sample.Phantom(3, sample.Rect(-1, 1, 3, 1, 5), sample.Wedge(1, 0, 2, 2, -5+2i), sample.Disc(2, 3, 1, 7i))
	// -1 0 / 1 0
	two := sample.Phantom(2, sample.Rect(0, 0, 2, 2, 1), sample.Rect(1, 0, 9, 9, -1), sample.Disc(0, 0, 0, -2))
	for _, c := range []struct {
		p    api.Phantom
		d    api.Dir
		want []complex128
	}{
		{sample.Phantom(1, sample.Disc(0, 0, 0, 5-3i)), api.Dir{P: -16, Q: 15}, []complex128{5 - 3i}},
		{sample.Phantom(1), api.Dir{P: 1}, []complex128{0}},
		{example(), api.Dir{P: 1}, []complex128{0, 10 - 2i, 12 - 2i, 4}},
		{example(), api.Dir{P: 1, Q: 1}, []complex128{0, 0, 7 - 1i, 12 - 2i, 7 - 1i, 0, 0}},
		{example(), api.Dir{P: -1, Q: 1}, []complex128{2, 4, 5 - 1i, 10 - 2i, 5 - 1i, 0, 0}},
		{three, api.Dir{P: 1}, []complex128{7i, 5 + 2i, -10 + 4i}},
		{three, api.Dir{Q: 1}, []complex128{5, -5 + 4i, -5 + 9i}},
		{three, api.Dir{P: 1, Q: 1}, []complex128{0, 5, 9i, -5 + 2i, -5 + 2i}},
		{three, api.Dir{P: 2, Q: 3}, []complex128{0, 0, 5, 0, 0, 2i, 7i, -5 + 2i, 0, 0, -5 + 2i}},
		{three, api.Dir{P: -2, Q: 3}, []complex128{0, 0, 5, -5 + 2i, 0, 2i, -5 + 2i, 0, 0, 0, 7i}},
		{two, api.Dir{P: 1}, []complex128{1, -1}},
		{two, api.Dir{Q: 1}, []complex128{0, 0}},
		{two, api.Dir{P: 1, Q: 16}, []complex128{1, -1, 0, 0, 0, 0, 0, 0, 0, 0, 0, 0, 0, 0, 0, 0, 0, 0}},
		{sample.Phantom(3), api.Dir{P: 1, Q: 1}, make([]complex128, 5)},
	} {
		if q, e := closed.Project(c.p, c.d); !sample.SameProj(right(t, q, e), api.Proj{Dir: c.d, Bins: c.want}) {
			t.Errorf("side %d along %v: %v, not %v", c.p.N, c.d, q.Bins, c.want)
		}
	}
	if q, e := closed.Project(sample.Brimful(64)[6], api.Dir{P: 1, Q: 1}); right(t, q, e).Bins[63] != complex(1<<26, -1<<26) {
		t.Errorf("the greatest line: %v", q.Bins[63])
	}
}

// P10.1: phantoms of every kind, along directions of every kind, by the rules.
func TestProject(t *testing.T) {
	for _, n := range sample.Sides() {
		for _, p := range sample.AllPhantoms(n) {
			all := cells(p)
			for _, d := range dirs(n) {
				if q, e := closed.Project(p, d); !sample.SameProj(right(t, q, e), projected(n, all, d)) {
					t.Fatalf("%v along %v: not the sums of its lines", p, d)
				}
			}
		}
	}
}

// P10.1: every direction there is.
func TestProjectAllRound(t *testing.T) {
	for _, n := range []int{1, 2, 5, 9} {
		for _, p := range append(sample.AnyPhantoms(n, 3), sample.Waste(n)[5]) {
			all := cells(p)
			for _, d := range sample.Wheel() {
				if q, e := closed.Project(p, d); !sample.SameProj(right(t, q, e), projected(n, all, d)) {
					t.Fatalf("%v along %v: %v", p, d, q.Bins)
				}
			}
		}
	}
}

// P10.1: one shape alone, times each worth there may be, and worths that cancel out where it meets another; noughts are +0.
func TestWorths(t *testing.T) {
	for _, w := range sample.Worths() {
		for _, s := range []api.Shape{sample.Rect(0, 1, 2, 9, w), sample.Disc(2, 2, 2, w), sample.Wedge(-1, 0, 4, 3, w), sample.Disc(9, 9, 2, w)} {
			other := s
			other.Worth = complex(0-real(w), 0-imag(w))
			for _, p := range []api.Phantom{sample.Phantom(3, s), sample.Phantom(3, s, other), sample.Phantom(3, s, sample.Rect(1, 0, 1, 3, other.Worth)), sample.Phantom(3, s, s, s)} {
				all := cells(p)
				for _, d := range []api.Dir{{P: 1}, {Q: 1}, {P: 1, Q: 1}, {P: -2, Q: 1}, {P: 3, Q: 2}} {
					if q, e := closed.Project(p, d); !sample.SameProj(right(t, q, e), projected(3, all, d)) {
						t.Fatalf("%v along %v: %v", p, d, q.Bins)
					}
				}
				mx, my := moments(3, all)
				if x, y, e := closed.Moment(p); e != api.OK || !sameMoments(x, y, mx, my) {
					t.Fatalf("%v: moment %v, %v, error %d", p, x, y, e)
				}
			}
		}
	}
}

// P10.1: what is no sound phantom is told ahead of what is no direction.
func TestProjectRefused(t *testing.T) {
	good, none := sample.Dirs(), sample.NoDirs()
	for i, f := range sample.Flaws() {
		for _, d := range []api.Dir{{P: 1}, {}, good[i%len(good)], none[i%len(none)]} {
			q, e := closed.Project(f.Phantom, d)
			refused(t, "Project of no phantom", noProj(q), e, f.Want)
		}
	}
	for _, n := range sample.Sides() {
		for _, p := range []api.Phantom{{N: n}, sample.Phantom(n, sample.Many(16)...), sample.Bare(n)} {
			for _, d := range none {
				q, e := closed.Project(p, d)
				refused(t, "Project along no direction", noProj(q), e, api.ErrDir)
			}
		}
	}
}
