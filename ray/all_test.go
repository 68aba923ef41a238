package ray_test

import (
	"runtime"
	"testing"
	"time"

	"penumbra/api"
	"penumbra/ray"
	"penumbra/sample"
)

// oneByOne: the projections as Project tells them.
func oneByOne(t *testing.T, g api.Grid, dirs []api.Dir) api.Sino {
	t.Helper()
	out := api.Sino{N: g.N}
	for _, d := range dirs {
		p, e := ray.Project(g, d)
		out.Projs = append(out.Projs, right(t, p, e))
	}
	return out
}

// P9.1: one after the other the projections that Project tells, whatever the number of workers, also more of them than directions.
func TestAll(t *testing.T) {
	for _, n := range sample.Sides() {
		for i, dirs := range sample.DirLists() {
			all := sample.Grids(n)
			g := all[i%len(all)]
			want := oneByOne(t, g, dirs)
			for workers := 1; workers <= 16; workers++ {
				if s, e := ray.All(g, dirs, workers); !sample.SameSino(right(t, s, e), want) {
					t.Fatalf("side %d, %d directions, %d workers: not the projections one by one", n, len(dirs), workers)
				}
			}
		}
	}
	if s, e := ray.All(four(), []api.Dir{{Q: 1}, {P: 1}}, 2); !sample.SameSino(right(t, s, e), api.Sino{N: 2, Projs: []api.Proj{{Dir: api.Dir{Q: 1}, Bins: []complex128{4, 6}}, {Dir: api.Dir{P: 1}, Bins: []complex128{7, 3}}}}) {
		t.Errorf("written out: %v", s)
	}
}

// P9.1: the same answer bit by bit, however the workers come to run.
func TestWorkersDoNotShow(t *testing.T) {
	for _, n := range []int{1, 3, 16} {
		g := sample.Grids(n)[5]
		for _, dirs := range [][]api.Dir{sample.Wheel()[:64], sample.Wheel()[70:75]} {
			want := oneByOne(t, g, dirs)
			for range 60 {
				for _, workers := range []int{1, 2, 3, 5, 15, 16} {
					if s, e := ray.All(g, dirs, workers); !sample.SameSino(right(t, s, e), want) {
						t.Fatalf("side %d, %d workers: another answer", n, workers)
					}
				}
			}
		}
	}
}

// P1: no worker is left over.
func TestWorkersEnd(t *testing.T) {
	before := runtime.NumGoroutine()
	for range 100 {
		ray.All(sample.Numbered(4), sample.Wheel()[:9], 16)
	}
	for waited := 0; runtime.NumGoroutine() > before; waited++ { // one that has told its end may still be leaving
		if waited > 10000 {
			t.Fatalf("%d are left over", runtime.NumGoroutine()-before)
		}
		time.Sleep(time.Millisecond)
	}
}

// P9.1: each fault alone, and ahead of those that come behind it: the grid, how many directions, the directions one after the other, the workers.
func TestAllRefused(t *testing.T) {
	one := api.Dir{P: 1}
	faults := sample.DirFlaws()
	for _, f := range faults {
		for _, workers := range append(noWorkers(), 1, 2, 16) {
			s, e := ray.All(four(), f.Dirs, workers)
			refused(t, "All", noSino(s), e, f.Want)
		}
	}
	for i, g := range sample.NoGrids() {
		for _, dirs := range [][]api.Dir{nil, {one}, faults[i%len(faults)].Dirs} {
			for _, workers := range []int{0, 1, 17} {
				s, e := ray.All(g, dirs, workers)
				refused(t, "All of no grid", noSino(s), e, api.ErrGrid)
			}
		}
	}
	for _, workers := range noWorkers() {
		for _, dirs := range sample.DirLists() {
			s, e := ray.All(four(), dirs, workers)
			refused(t, "All by no workers", noSino(s), e, api.ErrArg)
		}
	}
}
