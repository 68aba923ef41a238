package ray_test

import (
	"slices"
	"testing"

	"penumbra/api"
	"penumbra/ray"
	"penumbra/sample"
)

// P9.4: a grid that is handed in is not changed, its spare room neither, whatever is answered.
func TestGridsAreNotChanged(t *testing.T) {
	all := sample.NoGrids()
	for _, n := range sample.Sides() {
		all = append(all, sample.Grids(n)...)
	}
	for _, g := range all {
		changed := sample.Changed(g.Cells, func(cells []complex128) {
			same := api.Grid{N: g.N, Cells: cells}
			ray.Project(same, api.Dir{P: 3, Q: 2})
			ray.Project(same, api.Dir{P: 2, Q: 2})
			ray.All(same, sample.Wheel()[:5], 3)
			ray.All(same, sample.Wheel()[:65], 3)
		})
		if changed {
			t.Fatalf("side %d, %d cells: changed", g.N, len(g.Cells))
		}
	}
}

// P9.4: nor are bins and lists of numbers.
func TestListsAreNotChanged(t *testing.T) {
	for _, n := range []int{1, 2, 5, 64} {
		for _, d := range append(sample.Dirs(), api.Dir{}, api.Dir{P: 4, Q: 2}) {
			for _, list := range anyBins(bins(n, d)) {
				changed := sample.Changed(list, func(list []complex128) {
					ray.Spread(n, api.Proj{Dir: d, Bins: list})
					ray.Spread(n+1, api.Proj{Dir: d, Bins: list})
					ray.Dot(list, list)
					ray.Dot(list, list[1:])
					ray.Dot(list[1:], slices.Clone(list[1:]))
				})
				if changed {
					t.Fatalf("side %d, along %v: changed", n, d)
				}
			}
		}
	}
}

// P9.4: nor are lists of directions.
func TestDirsAreNotChanged(t *testing.T) {
	all := append(sample.DirLists(), sample.Wheel(), sample.NoDirs(), append(sample.Dirs(), sample.Dirs()...), append(sample.Dirs(), sample.NoDirs()...))
	for _, dirs := range all {
		for _, workers := range []int{0, 1, 2, 16} {
			room := append(slices.Clone(dirs), api.Dir{P: -16, Q: 1}, api.Dir{P: 7, Q: -7}, api.Dir{P: 1})
			before := slices.Clone(room)
			ray.All(sample.Numbered(3), room[:len(dirs)], workers)
			if !slices.Equal(room, before) {
				t.Fatalf("%v has become %v", before, room)
			}
		}
	}
}

// P9.4: an answer is new memory, shared with no argument and no other answer, of before or of later.
func TestAnswersAreNew(t *testing.T) {
	for _, n := range sample.Sides() {
		for _, d := range sample.Dirs() {
			shares := sample.Shared(sample.Numbered(n).Cells, func(cells []complex128) []complex128 {
				p, _ := ray.Project(api.Grid{N: n, Cells: cells}, d)
				return p.Bins
			})
			if shares != "" {
				t.Errorf("Project, side %d, along %v: the bins share memory with %s", n, d, shares)
			}
			shares = sample.Shared(make([]complex128, bins(n, d)), func(list []complex128) []complex128 {
				f, _ := ray.Spread(n, api.Proj{Dir: d, Bins: list})
				return f.Cells
			})
			if shares != "" {
				t.Errorf("Spread, side %d, along %v: the cells share memory with %s", n, d, shares)
			}
		}
	}
}

// P9.4: no two lists of All's answer share memory, none does with an argument, and none with another answer.
func TestManyAnswersAreNew(t *testing.T) {
	for _, n := range []int{1, 2, 13} {
		for _, workers := range []int{1, 4, 16} {
			dirs := sample.Wheel()[:40]
			g := sample.Numbered(n)
			shares := sample.SharedSino(func() api.Sino {
				s, e := ray.All(g, dirs, workers)
				return right(t, s, e)
			})
			if shares != "" {
				t.Fatalf("side %d: the bins share memory with %s", n, shares)
			}
			s, e := ray.All(g, dirs, workers)
			want := sample.CopySino(right(t, s, e))
			clear(g.Cells)
			clear(dirs)
			if !sample.SameSino(s, want) {
				t.Fatalf("side %d: an argument shows in the answer later", n)
			}
		}
	}
}

// P1, rule 5: calls at the same time do not show in each other's answers.
func TestAtTheSameTime(t *testing.T) {
	done := make(chan bool)
	g, dirs := sample.Grids(13)[5], sample.Wheel()[:30]
	want := oneByOne(t, g, dirs)
	for k := range 8 {
		go func() {
			well := true
			for range 20 {
				s, e := ray.All(g, dirs[k:], k+1)
				p, _ := ray.Project(g, dirs[k])
				f, _ := ray.Spread(13, p)
				v, _ := ray.Dot(p.Bins, p.Bins)
				part := api.Sino{N: 13, Projs: want.Projs[k:]}
				well = well && e == api.OK && sample.SameSino(s, part) && sample.SameProj(p, part.Projs[0]) && alikeFields(f, spread(13, p)) && v == dotted(p.Bins, p.Bins)
			}
			done <- well
		}()
	}
	for range 8 {
		if !<-done {
			t.Error("a call answers otherwise beside others")
		}
	}
}
