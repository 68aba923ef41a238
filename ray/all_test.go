package ray_test

import (
	"runtime"
	"testing"
	"time"

	"penumbra/api"
	"penumbra/ray"
	"penumbra/sample"
)

// oneByOne: the projections as Project tells them.
func oneByOne(t *testing.T, g api.Grid, dirs []api.Dir) api.Sino {
	t.Helper()
	out := api.Sino{N: g.N}
	for _, d := range dirs {
		p, e := ray.Project(g, d)
		out.Projs = append(out.Projs, right(t, p, e))
	}
	return out
}

// lists: of no direction (both ways of saying it), of one, of as many as there may be, and of some, in no order of their angles.
func lists() [][]api.Dir {
	all := wheel()
	return [][]api.Dir{nil, {}, {{P: 1}}, {{P: -16, Q: 15}}, all[:2], all[3:18], all[50:67], all[:63], all[:64], all[256:], sample.Dirs()}
}

// P9.1: one after the other the projections that Project tells, whatever the number of workers, also more of them than directions.
func TestAll(t *testing.T) {
	for _, n := range sample.Sides() {
		for i, dirs := range lists() {
			all := sample.Grids(n)
			g := all[i%len(all)]
			want := oneByOne(t, g, dirs)
			for workers := 1; workers <= 16; workers++ {
				if s, e := ray.All(g, dirs, workers); !alikeAll(right(t, s, e), want) {
					t.Fatalf("side %d, %d directions, %d workers: not the projections one by one", n, len(dirs), workers)
				}
			}
		}
	}
	if s, e := ray.All(four(), []api.Dir{{Q: 1}, {P: 1}}, 2); !alikeAll(right(t, s, e), api.Sino{N: 2, Projs: []api.Proj{{Dir: api.Dir{Q: 1}, Bins: []complex128{4, 6}}, {Dir: api.Dir{P: 1}, Bins: []complex128{7, 3}}}}) {
		t.Errorf("written out: %v", s)
	}
}

// P9.1: the same answer bit by bit, however the workers come to run.
func TestWorkersDoNotShow(t *testing.T) {
	for _, n := range []int{1, 3, 16} {
		g := sample.Grids(n)[5]
		for _, dirs := range [][]api.Dir{wheel()[:64], wheel()[70:75]} {
			want := oneByOne(t, g, dirs)
			for range 60 {
				for _, workers := range []int{1, 2, 3, 5, 15, 16} {
					if s, e := ray.All(g, dirs, workers); !alikeAll(right(t, s, e), want) {
						t.Fatalf("side %d, %d workers: another answer", n, workers)
					}
				}
			}
		}
	}
}

// P1: no worker is left over.
func TestWorkersEnd(t *testing.T) {
	before := runtime.NumGoroutine()
	for range 100 {
		ray.All(sample.Numbered(4), wheel()[:9], 16)
	}
	for waited := 0; runtime.NumGoroutine() > before; waited++ { // one that has told its end may still be leaving
		if waited > 10000 {
			t.Fatalf("%d are left over", runtime.NumGoroutine()-before)
		}
		time.Sleep(time.Millisecond)
	}
}

// P9.1: each fault alone, and ahead of those that come behind it: the grid, how many directions, the directions one after the other, the workers.
func TestAllRefused(t *testing.T) {
	all := wheel()
	one, other, none, far := all[0], all[1], api.Dir{P: 2, Q: 2}, api.Dir{P: 17, Q: 1}
	faults := []struct {
		dirs []api.Dir
		want api.Errno
	}{
		{all[:65], api.ErrLong}, {all[:66], api.ErrLong}, {all, api.ErrLong}, {make([]api.Dir, 65), api.ErrLong}, {append([]api.Dir{one}, all[:64]...), api.ErrLong}, {append(all[:64:64], none), api.ErrLong}, {make([]api.Dir, 70000), api.ErrLong},
		{[]api.Dir{none}, api.ErrDir}, {[]api.Dir{{}}, api.ErrDir}, {make([]api.Dir, 64), api.ErrDir}, {append(all[:63:63], none), api.ErrDir}, {append([]api.Dir{far}, all[:63]...), api.ErrDir},
		{[]api.Dir{none, none}, api.ErrDir}, {[]api.Dir{none, one, one}, api.ErrDir}, {[]api.Dir{one, none, one}, api.ErrDir}, {[]api.Dir{far, other, one, other}, api.ErrDir},
		{[]api.Dir{one, one}, api.ErrTwice}, {[]api.Dir{one, other, one}, api.ErrTwice}, {[]api.Dir{other, one, one}, api.ErrTwice}, {append(all[:63:63], one), api.ErrTwice}, {append(all[:63:63], all[62]), api.ErrTwice}, {append(all[:63:63], all[31]), api.ErrTwice},
		{[]api.Dir{one, one, none}, api.ErrTwice}, {[]api.Dir{one, other, one, far}, api.ErrTwice}, {[]api.Dir{one, one, one}, api.ErrTwice},
	}
	for _, f := range faults {
		for _, workers := range append(noWorkers(), 1, 2, 16) {
			s, e := ray.All(four(), f.dirs, workers)
			refused(t, "All", noSino(s), e, f.want)
		}
	}
	for _, d := range sample.NoDirs() {
		s, e := ray.All(four(), []api.Dir{one, d, one}, 3)
		refused(t, "All along no direction", noSino(s), e, api.ErrDir)
	}
	for i, g := range sample.NoGrids() {
		for _, dirs := range [][]api.Dir{nil, {one}, faults[i%len(faults)].dirs} {
			for _, workers := range []int{0, 1, 17} {
				s, e := ray.All(g, dirs, workers)
				refused(t, "All of no grid", noSino(s), e, api.ErrGrid)
			}
		}
	}
	for _, workers := range noWorkers() {
		for _, dirs := range lists() {
			s, e := ray.All(four(), dirs, workers)
			refused(t, "All by no workers", noSino(s), e, api.ErrArg)
		}
	}
}

// P9.1: wherever the first of the two stands, and the second.
func TestTwice(t *testing.T) {
	for j := 1; j < 64; j++ {
		for i := range j {
			dirs := wheel()[:64]
			dirs[j] = dirs[i]
			s, e := ray.All(sample.Filled(1, 1), dirs, 2)
			refused(t, "All along one that stands twice", noSino(s), e, api.ErrTwice)
		}
	}
}
