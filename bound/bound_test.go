package bound_test

import (
	"math"
	"slices"
	"testing"

	"penumbra/api"
	"penumbra/bound"
	"penumbra/sample"
)

// both: projections of side 2 along (1, 0) and (0, 1): the lower row, the upper one, the left column, the right one.
func both(lower, upper, left, right complex128) []api.Proj {
	return []api.Proj{sample.Proj(1, 0, lower, upper), sample.Proj(0, 1, left, right)}
}

// P19.1: the chapter's examples, and others that are written out.
func TestExamples(t *testing.T) {
	lo, hi := wide(2)
	ok := func(lo, hi []int) answer { return answer{lo: lo, hi: hi} }
	clash := answer{e: api.ErrClash}
	one := func(low, high int, projs ...api.Proj) job { return job{1, projs, []int{low}, []int{high}} }
	for _, c := range []struct {
		job  job
		want answer
	}{
		{job{2, both(255, 0, 0, 255), lo, hi}, ok([]int{0, 0, 0, 255}, []int{0, 0, 0, 255})},
		{job{2, both(7, 3, 4, 6), lo, hi}, ok([]int{0, 0, 1, 3}, []int{3, 3, 4, 6})},
		{job{2, both(600, 3, 4, 6), lo, hi}, clash},
		{job{2, both(7, 3, 4, 7), lo, hi}, clash},
		{job{2, nil, lo, hi}, ok(lo, hi)},
		{job{2, []api.Proj{}, []int{1, 2, 3, 4}, []int{9, 2, 255, 4}}, ok([]int{1, 2, 3, 4}, []int{9, 2, 255, 4})},
		{job{2, nil, []int{1, 2, 3, 4}, []int{9, 1, 255, 4}}, clash},
		{job{2, both(510, 509, 510, 509), lo, hi}, ok([]int{255, 254, 255, 255}, []int{255, 254, 255, 255})},
		{job{2, []api.Proj{sample.Proj(1, 0, 509, 1)}, lo, hi}, ok([]int{0, 0, 254, 254}, []int{1, 1, 255, 255})},
		{job{2, []api.Proj{sample.Proj(1, 0, 511, 1)}, lo, hi}, clash},
		{job{2, []api.Proj{sample.Proj(1, 1, 9, 20, 8)}, lo, hi}, ok([]int{0, 8, 9, 0}, []int{20, 8, 9, 20})},
		{job{2, []api.Proj{sample.Proj(-1, 1, 9, 20, 8)}, lo, hi}, ok([]int{9, 0, 0, 8}, []int{9, 20, 20, 8})},
		{job{2, both(7, 3, 4, 6), []int{1, 0, 0, 0}, hi}, ok([]int{1, 0, 1, 4}, []int{3, 2, 3, 6})},
		{job{2, both(7, 3, 4, 6), lo, []int{255, 255, 255, 4}}, ok([]int{0, 2, 3, 3}, []int{1, 3, 4, 4})},
		{job{2, both(7, 3, 4, 6), lo, []int{255, 255, 255, 3}}, ok([]int{0, 3, 4, 3}, []int{0, 3, 4, 3})},
		{job{2, both(7, 3, 4, 6), lo, []int{255, 255, 255, 2}}, clash},
		{job{3, []api.Proj{sample.Proj(1, 0, 0, 300, 765)}, filled(9, 0), filled(9, 255)}, ok([]int{255, 255, 255, 0, 0, 0, 0, 0, 0}, []int{255, 255, 255, 255, 255, 255, 0, 0, 0})},
		{job{3, []api.Proj{sample.Proj(1, 0, 0, 300, 765)}, filled(9, 0), []int{255, 255, 255, 20, 30, 255, 255, 255, 255}}, ok([]int{255, 255, 255, 15, 25, 250, 0, 0, 0}, []int{255, 255, 255, 20, 30, 255, 0, 0, 0})},
		{one(0, 255, sample.Proj(1, 0, 5)), ok([]int{5}, []int{5})},
		{one(0, 255, sample.Proj(1, 0, 255)), ok([]int{255}, []int{255})},
		{one(0, 255, sample.Proj(1, 0, 256)), clash},
		{one(0, 255, sample.Proj(1, 0, api.MaxBin)), clash},
		{one(3, 9, sample.Proj(16, 1, 3)), ok([]int{3}, []int{3})},
		{one(3, 9, sample.Proj(16, 1, 9)), ok([]int{9}, []int{9})},
		{one(3, 9, sample.Proj(16, 1, 2)), clash},
		{one(3, 9, sample.Proj(16, 1, 10)), clash},
		{one(0, 255, sample.Proj(0, 1, 5), sample.Proj(0, 1, 5)), ok([]int{5}, []int{5})},
		{one(0, 255, sample.Proj(0, 1, 5), sample.Proj(0, 1, 6)), clash},
		{one(5, 5), ok([]int{5}, []int{5})},
		{one(6, 5), clash},
		{one(255, 0), clash},
	} {
		check(t, c.job, c.want)
	}
}

// bins: what is projected, of a grid's own and not: its own, a little off, none that levels have, noughts, small ones, great ones, the greatest there are.
func bins(n int, levels []int, dirs []api.Dir, d *sample.Dice) [][]api.Proj {
	own := seen(n, levels, dirs)
	up := func(most int) func() int { return func() int { return int(d.Word() % uint64(most+1)) } }
	all := func(v int) func() int { return func() int { return v } }
	return [][]api.Proj{own, own, own, off(own, d, 1), off(own, d, 5), summed(n, dirs, up(2)), summed(n, dirs, up(600)), summed(n, dirs, all(0)), summed(n, dirs, all(255)), summed(n, dirs, up(api.MaxBin)), summed(n, dirs, all(api.MaxBin))}
}

// starts: bounds to begin with: the widest, around the levels near and far, certain ones, some that are others', and ones that are contradicted.
func starts(n int, levels []int, d *sample.Dice) [][2][]int {
	low, high := wide(n)
	out := [][2][]int{{low, high}, {levels, levels}, {low, levels}, {levels, high}, {high, low}, {low, low}, {high, high}}
	for _, far := range []int{1, 10, 80} {
		lo, hi := around(levels, d, far)
		out = append(out, [2][]int{lo, hi})
	}
	other := aGrid(n, d)
	lo, hi := around(other, d, 120)
	place := int(d.Word() % uint64(n*n))
	crossed := with(lo, place, min(hi[place]+1, 255))
	return append(out, [2][]int{other, other}, [2][]int{lo, hi}, [2][]int{levels, other}, [2][]int{crossed, hi})
}

// P19.1: of every side, with lists of every length, with bins of all kinds and from bounds of all kinds, what the sweeps come to.
func TestByTheRules(t *testing.T) {
	d := sample.Dice(191)
	count := map[api.Errno]int{}
	drawn, slow := 0, 0
	for n := 1; n <= 16; n++ {
		for i, dirs := range few(&d) {
			levels := aGrid(n, &d)
			projs, from := bins(n, levels, dirs, &d), starts(n, levels, &d)
			for k := range len(projs) * len(from) {
				if n > 4 && (k+i)%5 != 0 || len(dirs) > 20 && (k+i)%7 != 0 {
					continue
				}
				start := from[k%len(from)]
				j := job{n, projs[k/len(from)], start[0], start[1]}
				want := told(j, 512)
				check(t, j, want)
				count[want.e]++
				if want.e == api.OK && !slices.Equal(want.lo, j.lo) {
					drawn++
				}
				if want.sweeps > 4 {
					slow++
				}
			}
		}
	}
	if count[api.OK] < 2000 || count[api.ErrClash] < 2000 || drawn < 1000 || slow < 100 {
		t.Errorf("the samples are too much alike: %v, drawn together %d, in many sweeps %d", count, drawn, slow)
	}
}

// P19.1: along every direction there is.
func TestEveryDirection(t *testing.T) {
	d := sample.Dice(192)
	for _, along := range sample.Wheel() {
		for _, n := range []int{1, 2, 3, 7, 16} {
			levels := aGrid(n, &d)
			lo, hi := around(levels, &d, 40)
			for _, projs := range [][]api.Proj{seen(n, levels, []api.Dir{along}), off(seen(n, levels, []api.Dir{along, {P: 1}}), &d, 2)} {
				j := job{n, projs, lo, hi}
				check(t, j, told(j, 512))
			}
		}
	}
}

// P19.1: a bin without cells contradicts all bounds if it isn't 0, whatever the other bins are; if it is, it changes nothing.
func TestBinsWithoutCells(t *testing.T) {
	d := sample.Dice(193)
	found := 0
	for _, along := range sample.Dirs() {
		for _, n := range []int{2, 3, 5, 16} {
			levels := aGrid(n, &d)
			own := api.Sino{N: n, Projs: seen(n, levels, []api.Dir{{Q: 1}, along})}
			lo, hi := wide(n)
			j := job{n, own.Projs, lo, hi}
			check(t, j, told(j, 512))
			for bin, cells := range lineCells(n, along) {
				if len(cells) > 0 || bin%3 != 0 {
					continue
				}
				found++
				for _, v := range []complex128{1, 255, api.MaxBin} {
					projs := sample.WithBin(own, 1, bin, v).Projs
					refused(t, job{n, projs, lo, hi}, api.ErrClash)
					refused(t, job{n, projs, levels, levels}, api.ErrClash)
					refused(t, job{n, projs[1:], levels, levels}, api.ErrClash)
				}
			}
		}
	}
	if found < 100 {
		t.Errorf("only %d bins are without cells", found)
	}
}

// P19.1: which places are certain, of any two lists.
func TestCertain(t *testing.T) {
	for _, c := range []struct {
		lo, hi []int
		want   []bool
	}{
		{nil, nil, nil},
		{[]int{}, nil, nil},
		{[]int{1, 2}, nil, nil},
		{nil, []int{0}, nil},
		{[]int{5}, []int{5}, []bool{true}},
		{[]int{5}, []int{6}, []bool{false}},
		{[]int{6}, []int{5}, []bool{false}},
		{[]int{1, 2, 3}, []int{1, 3, 3, 4, 5}, []bool{true, false, true}},
		{[]int{1, 2, 3, 4}, []int{0, 2}, []bool{false, true}},
		{[]int{-7, 256, math.MinInt, math.MaxInt, 0}, []int{-7, 256, math.MinInt, math.MaxInt, math.MinInt}, []bool{true, true, true, true, false}},
		{filled(300, 9), with(filled(301, 9), 299, 8), append(slices.Repeat([]bool{true}, 299), false)},
	} {
		if got := bound.Certain(c.lo, c.hi); !slices.Equal(got, c.want) {
			t.Errorf("%v, %v: %v, not %v", c.lo, c.hi, got, c.want)
		}
		if got := bound.Certain(c.hi, c.lo); !slices.Equal(got, c.want) {
			t.Errorf("%v, %v: %v, not %v", c.hi, c.lo, got, c.want)
		}
	}
	// Room behind a list is no place of it.
	if got := bound.Certain(make([]int, 2, 9), make([]int, 3, 9)); len(got) != 2 {
		t.Errorf("%v", got)
	}
}

// P19.1: how wide they are together, of any two lists; it wraps round.
func TestWidth(t *testing.T) {
	for _, c := range []struct {
		lo, hi []int
		want   int
	}{
		{nil, nil, 0},
		{[]int{}, []int{1, 2}, 0},
		{[]int{7, 8}, nil, 0},
		{[]int{3}, []int{10}, 7},
		{[]int{10}, []int{3}, -7},
		{[]int{0, 0, 0, 0}, []int{255, 255, 255, 255}, 1020},
		{[]int{0, 0, 1, 3}, []int{3, 3, 4, 6}, 12},
		{[]int{1, 2, 3}, []int{11, 22, 33, 44}, 60},
		{[]int{1, 2, 3}, []int{11, 22}, 30},
		{[]int{-1}, []int{math.MaxInt}, math.MinInt},
		{[]int{1}, []int{math.MinInt}, math.MaxInt},
		{[]int{math.MinInt}, []int{math.MaxInt}, -1},
		{[]int{math.MaxInt}, []int{math.MinInt}, 1},
		{[]int{0, 0}, []int{math.MaxInt, 1}, math.MinInt},
		{[]int{0, 0, 0}, []int{math.MaxInt, math.MaxInt, 2}, 0},
		{[]int{0, 1}, []int{math.MinInt, 0}, math.MaxInt},
		{[]int{math.MinInt, math.MinInt}, []int{0, 0}, 0},
		{filled(70000, -1), filled(70001, 1), 140000},
	} {
		if got := bound.Width(c.lo, c.hi); got != c.want {
			t.Errorf("%v, %v: %d, not %d", c.lo, c.hi, got, c.want)
		}
	}
	if got := bound.Width(make([]int, 1, 4), []int{5, 6, 7}); got != 5 {
		t.Errorf("room is taken for a place: %d", got)
	}
}

// P19.1: the widest bounds, of every side that has bounds, and of no other.
func TestWide(t *testing.T) {
	for n := 1; n <= 16; n++ {
		lo, hi, e := bound.Wide(n)
		if e != api.OK || !slices.Equal(lo, filled(n*n, 0)) || !slices.Equal(hi, filled(n*n, 255)) {
			t.Errorf("side %d: %v to %v, error %d", n, lo, hi, e)
		}
	}
	for _, n := range noSmalls() {
		if lo, hi, e := bound.Wide(n); e != api.ErrArg || len(lo) != 0 || len(hi) != 0 {
			t.Errorf("side %d: error %d, or something beside it", n, e)
		}
	}
}
