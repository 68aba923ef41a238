package closed_test

import (
	"testing"

	"penumbra/api"
	"penumbra/closed"
	"penumbra/sample"
)

// oneByOne: the projections as Project tells them.
func oneByOne(t *testing.T, p api.Phantom, dirs []api.Dir) api.Sino {
	t.Helper()
	out := api.Sino{N: p.N}
	for _, d := range dirs {
		q, e := closed.Project(p, d)
		out.Projs = append(out.Projs, right(t, q, e))
	}
	return out
}

// P10.1: one after the other the projections that Project tells, in the order of the directions.
func TestAll(t *testing.T) {
	for _, n := range sample.Sides() {
		all := sample.AllPhantoms(n)
		for i, dirs := range sample.DirLists() {
			for j := i; j < len(all); j += len(sample.DirLists()) * (1 + n/30) {
				if s, e := closed.All(all[j], dirs); !sample.SameSino(right(t, s, e), oneByOne(t, all[j], dirs)) {
					t.Fatalf("%v, %d directions: not the projections one by one", all[j], len(dirs))
				}
			}
		}
	}
	want := api.Sino{N: 4, Projs: []api.Proj{{Dir: api.Dir{Q: 1}, Bins: []complex128{4, 12 - 2i, 10 - 2i, 0}}, {Dir: api.Dir{P: 1}, Bins: []complex128{0, 10 - 2i, 12 - 2i, 4}}}}
	if s, e := closed.All(example(), []api.Dir{{Q: 1}, {P: 1}}); !sample.SameSino(right(t, s, e), want) {
		t.Errorf("written out: %v", s)
	}
	for _, dirs := range [][]api.Dir{nil, {}} {
		if s, e := closed.All(example(), dirs); right(t, s, e).N != 4 || len(s.Projs) != 0 {
			t.Errorf("along no direction: %v", s)
		}
	}
}

// P10.1: each fault alone, and ahead of those that come behind it: the phantom, how many directions, the directions one after the other.
func TestAllRefused(t *testing.T) {
	faults := sample.DirFlaws()
	for _, p := range []api.Phantom{{N: 1}, example(), sample.Phantom(64, sample.Many(16)...)} {
		for _, f := range faults {
			s, e := closed.All(p, f.Dirs)
			refused(t, "All", noSino(s), e, f.Want)
		}
	}
	lists := sample.DirLists()
	for i, f := range sample.Flaws() {
		for _, dirs := range [][]api.Dir{lists[i%len(lists)], faults[i%len(faults)].Dirs, faults[i%25].Dirs} {
			s, e := closed.All(f.Phantom, dirs)
			refused(t, "All of no phantom", noSino(s), e, f.Want)
		}
	}
}
