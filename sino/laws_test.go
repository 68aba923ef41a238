package sino_test

import (
	"slices"
	"testing"

	"penumbra/api"
	"penumbra/grid"
	"penumbra/ray"
	"penumbra/sample"
	"penumbra/sino"
)

// centres: the sums of x times the cells, and of y times them.
func centres(g api.Grid) (mx, my complex128) {
	var x, y pair
	for j, v := range g.Cells {
		re, im, right, down := int64(real(v)), int64(imag(v)), int64(j%g.N), int64(j/g.N)
		x, y = pair{x.re + right*re, x.im + right*im}, pair{y.re + down*re, y.im + down*im}
	}
	return complex(float64(x.re), float64(x.im)), complex(float64(y.re), float64(y.im))
}

// P11.2: projections of a grid are sound, Total is the sum of its cells, Moment the sums of its cells times their places.
func TestWhatAllAgreeIn(t *testing.T) {
	for _, n := range sample.Sides() {
		grids, lists := sample.Grids(n), sample.DirLists()
		for i, g := range grids {
			for _, dirs := range [][]api.Dir{lists[i%len(lists)], sample.Wheel()[20*i : 20*i+2], sample.Wheel()[9*i : 9*i+5]} {
				s, e := ray.All(g, dirs, 4)
				right(t, s, e)
				if e := sino.Check(s); e != api.OK {
					t.Fatalf("%s: error %d", about(s), e)
				}
				sum, e := grid.Sum(g)
				right(t, sum, e)
				v, e := sino.Total(s)
				if len(dirs) == 0 {
					refused(t, "Total of none", v == 0, e, api.ErrFew)
				} else if !sample.Agree(right(t, v, e), sum) {
					t.Fatalf("%s: %v, not %v", about(s), v, sum)
				}
				wantX, wantY := centres(g)
				mx, my, e := sino.Moment(s)
				if len(dirs) < 2 {
					refused(t, "Moment of fewer than two", mx == 0 && my == 0, e, api.ErrFew)
				} else if e != api.OK || !sample.Agree(mx, wantX) || !sample.Agree(my, wantY) {
					t.Fatalf("%s: %v, %v, error %d, not %v, %v", about(s), mx, my, e, wantX, wantY)
				}
			}
		}
	}
}

// P11.3: Only of Dirs is s, and Sort of Sort is Sort.
func TestOnlyOfDirsAndSortOfSort(t *testing.T) {
	for _, s := range sinos() {
		if all, e := sino.Only(s, sino.Dirs(s)); !sample.SameSino(right(t, all, e), s) {
			t.Fatalf("%s: Only of Dirs: %s", about(s), about(all))
		}
		once, e := sino.Sort(s)
		twice, e2 := sino.Sort(right(t, once, e))
		if !sample.SameSino(right(t, twice, e2), once) {
			t.Fatalf("%s sorted, and sorted again: %s", about(once), about(twice))
		}
	}
}

// P11.3: what is taken apart and joined has, sorted, what there was.
func TestApartAndJoined(t *testing.T) {
	d := sample.Dice(31)
	for _, s := range sinos() {
		want, e := sino.Sort(s)
		right(t, want, e)
		for k := range 5 {
			var parts [2][]api.Dir
			for i, along := range sino.Dirs(s) {
				side := []int{0, 1, i % 2, int(d.Word() % 2), int(d.Word() % 2)}[k]
				parts[side] = append(parts[side], along)
			}
			slices.Reverse(parts[1])
			some, e := sino.Only(s, parts[0])
			others, e2 := sino.Only(s, parts[1])
			both, e3 := sino.Join(right(t, some, e), right(t, others, e2))
			sorted, e4 := sino.Sort(right(t, both, e3))
			if !sample.SameSino(right(t, sorted, e4), want) {
				t.Fatalf("%s: apart and joined: %s", about(s), about(both))
			}
		}
	}
}

// P11.3: Drop takes just one away, one after the other till there is none.
func TestDropTakesOne(t *testing.T) {
	d := sample.Dice(32)
	for _, s := range sinos() {
		rest := s
		for many := len(s.Projs); many > 0; many-- {
			at := int(d.Word() % uint64(many))
			gone := rest.Projs[at]
			less, e := sino.Drop(rest, gone.Dir)
			if len(right(t, less, e).Projs) != many-1 || slices.Contains(sino.Dirs(less), gone.Dir) {
				t.Fatalf("%s without %v: %s", about(rest), gone.Dir, about(less))
			}
			back := api.Sino{N: s.N, Projs: slices.Insert(slices.Clone(less.Projs), at, gone)}
			if !sample.SameSino(back, rest) {
				t.Fatalf("%s without %v: something else is gone", about(rest), gone.Dir)
			}
			if rest = less; many > 8 && s.N > 8 {
				many -= 7
				rest.Projs = rest.Projs[7:]
			}
		}
		if e := sino.Check(rest); e != api.OK || rest.N != s.N {
			t.Fatalf("none is left, side %d: error %d", rest.N, e)
		}
	}
}
