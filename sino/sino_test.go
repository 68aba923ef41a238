package sino_test

import (
	"math"
	"slices"
	"testing"

	"penumbra/api"
	"penumbra/sample"
	"penumbra/sino"
)

// P11.1: the chapter's examples.
func TestExamples(t *testing.T) {
	s := example()
	if v, e := sino.Total(s); v != 10 || e != api.OK {
		t.Errorf("Total: %v, error %d", v, e)
	}
	if mx, my, e := sino.Moment(s); mx != 6 || my != 7 || e != api.OK {
		t.Errorf("Moment: %v, %v, error %d", mx, my, e)
	}
	if v, e := sino.Total(sinoOf(2, s.Projs[0], projOf(0, 1, 4, 5))); v != 0 || e != api.ErrClash {
		t.Errorf("Total of what contradicts itself: %v, error %d", v, e)
	}
	if mx, my, e := sino.Moment(sinoOf(2, s.Projs[0])); mx != 0 || my != 0 || e != api.ErrFew {
		t.Errorf("Moment of one: %v, %v, error %d", mx, my, e)
	}
	if rest, e := sino.Drop(s, dirOf(1, 0)); !sample.SameSino(right(t, rest, e), sinoOf(2, s.Projs[1])) {
		t.Errorf("Drop: %v", rest)
	}
	turned, e := sino.Only(s, []api.Dir{{Q: 1}, {P: 1}})
	if !sample.SameSino(right(t, turned, e), sinoOf(2, s.Projs[1], s.Projs[0])) {
		t.Errorf("Only: %v", turned)
	}
	if some, e := sino.Only(s, []api.Dir{{P: 1, Q: 1}}); !noSino(some) || e != api.ErrNone {
		t.Errorf("Only of one that isn't there: %v, error %d", some, e)
	}
	if sorted, e := sino.Sort(turned); !sample.SameSino(right(t, sorted, e), s) {
		t.Errorf("Sort: %v", sorted)
	}
}

// P11.1: projections that are sound, of every side.
func TestSound(t *testing.T) {
	for n := 1; n <= 64; n++ {
		all := []api.Sino{{N: n}, sample.Blanks(n, sample.Dirs()), sample.Projs(n, sample.Wheel()[n:n+3], func() float64 { return api.MaxBin })}
		for _, s := range all {
			if e := sino.Check(s); e != api.OK {
				t.Fatalf("side %d, %d projections: error %d", n, len(s.Projs), e)
			}
		}
	}
	for _, d := range sample.Wheel() {
		if e := sino.Check(sample.Blanks(3, []api.Dir{d})); e != api.OK {
			t.Fatalf("along %v: error %d", d, e)
		}
	}
	for _, n := range sample.Sides() {
		for _, s := range sample.Sinos(n) {
			if e := sino.Check(s); e != api.OK || verdict(s) != api.OK {
				t.Fatalf("side %d, %d projections: error %d", n, len(s.Projs), e)
			}
		}
	}
	for _, x := range []float64{0, 1, -1, 1 << 20, 1<<20 + 1, 1<<32 - 1, 1 - 1<<32, 1 << 32, -1 << 32} {
		for _, v := range []complex128{complex(x, 0), complex(0, x), complex(x, -3), complex(7, x), complex(x, x)} {
			if e := sino.Check(sample.WithBin(example(), 1, 1, v)); e != api.OK {
				t.Errorf("%v: error %d", v, e)
			}
		}
	}
}

// P11.1: each fault is told by its own error, and of several the first.
func TestFaults(t *testing.T) {
	for _, f := range sample.SinoFlaws() {
		if e := sino.Check(f.Sino); e != f.Want || verdict(f.Sino) != f.Want {
			t.Fatalf("side %d, along %v: error %d, not %d", f.Sino.N, sino.Dirs(f.Sino), e, f.Want)
		}
	}
	for want, s := range map[api.Errno]api.Sino{
		api.ErrArg:   {N: 65, Projs: make([]api.Proj, 65)},
		api.ErrLong:  {N: 64, Projs: make([]api.Proj, 65)},
		api.ErrDir:   sinoOf(1, projOf(0, 0)),
		api.ErrTwice: sinoOf(1, projOf(1, 0, 0), projOf(1, 0)),
		api.ErrBins:  sinoOf(1, projOf(1, 0), projOf(0, 0)),
	} {
		if e := sino.Check(s); e != want {
			t.Errorf("%v: error %d, not %d", s, e, want)
		}
	}
}

// P11.1: of any number of faults anywhere.
func TestAnyFaults(t *testing.T) {
	d := sample.Dice(20)
	wheel, noDirs, noBins := sample.Wheel(), sample.NoDirs(), sample.NoBins()
	pick := func(below int) int { return int(d.Word() % uint64(below)) }
	seen := map[api.Errno]int{}
	for range 20000 {
		n, many := 1+pick(4), pick(6)
		s := sample.Blanks(n, wheel[many:2*many])
		for range pick(4) * min(many, 1) {
			at := &s.Projs[pick(many)]
			switch pick(5) {
			case 0:
				at.Dir = noDirs[pick(len(noDirs))]
			case 1:
				at.Dir = s.Projs[pick(many)].Dir
			case 2:
				at.Bins = at.Bins[:pick(len(at.Bins)+1)]
			case 3:
				at.Bins = append(at.Bins, 0)
			case 4:
				at.Bins = append([]complex128{noBins[pick(len(noBins))]}, at.Bins[min(1, len(at.Bins)):]...)
			}
		}
		want := verdict(s)
		seen[want]++
		if e := sino.Check(s); e != want {
			t.Fatalf("%v: error %d, not %d", s, e, want)
		}
	}
	for _, e := range []api.Errno{api.OK, api.ErrDir, api.ErrTwice, api.ErrBins} {
		if seen[e] < 100 {
			t.Errorf("error %d only %d times", e, seen[e])
		}
	}
}

// P11.1: every call that answers an error answers Check's first, whatever else is wrong, and nothing beside it.
func TestUnsoundAreRefused(t *testing.T) {
	nothing := []api.Dir{{P: 5, Q: 7}, {P: 5, Q: 7}, {}}
	others := slices.Concat(sample.Sinos(1), sample.Sinos(2), sample.Sinos(3))
	for i, f := range sample.SinoFlaws() {
		s, other := f.Sino, others[i%len(others)]
		v, e := sino.Total(s)
		refused(t, "Total", v == 0, e, f.Want)
		mx, my, e := sino.Moment(s)
		refused(t, "Moment", mx == 0 && my == 0, e, f.Want)
		for _, dirs := range [][]api.Dir{nil, nothing, sino.Dirs(s)[:min(len(s.Projs), 2)]} {
			some, e := sino.Only(s, dirs)
			refused(t, "Only", noSino(some), e, f.Want)
			for _, d := range dirs {
				rest, e := sino.Drop(s, d)
				refused(t, "Drop", noSino(rest), e, f.Want)
			}
		}
		sorted, e := sino.Sort(s)
		refused(t, "Sort", noSino(sorted), e, f.Want)
		for _, b := range []api.Sino{other, s, {N: 65}, {N: 3, Projs: []api.Proj{{}}}} {
			both, e := sino.Join(s, b)
			refused(t, "Join, the first", noSino(both), e, f.Want)
		}
		both, e := sino.Join(other, s)
		refused(t, "Join, the second", noSino(both), e, f.Want)
	}
}

// P11.1: Dirs of any projections, sound or not.
func TestDirs(t *testing.T) {
	for _, s := range []api.Sino{{}, {N: 2}, {N: -5, Projs: []api.Proj{}}} {
		if got := sino.Dirs(s); len(got) != 0 {
			t.Errorf("%v: %v", s, got)
		}
	}
	wheel := sample.Wheel()
	lists := append(sample.DirLists(), wheel, sample.NoDirs(), append(sample.Dirs(), sample.Dirs()...), []api.Dir{{}}, make([]api.Dir, 5000))
	for _, n := range []int{2, 64, 0, 65, math.MinInt} {
		for _, dirs := range lists {
			s := api.Sino{N: n}
			for i, d := range dirs {
				s.Projs = append(s.Projs, api.Proj{Dir: d, Bins: make([]complex128, i%3)})
			}
			got := sino.Dirs(s)
			if len(got) != len(dirs) {
				t.Fatalf("%d directions, not %d", len(got), len(dirs))
			}
			for i, d := range dirs {
				if got[i] != d {
					t.Fatalf("number %d is %v, not %v", i, got[i], d)
				}
			}
		}
	}
}
