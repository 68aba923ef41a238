package grid_test

import (
	"math"
	"testing"

	"penumbra/api"
	"penumbra/cx"
	"penumbra/grid"
	"penumbra/sample"
)

// of: the answer of a call that isn't refused.
func of(t *testing.T) func(g api.Grid, e api.Errno) api.Grid {
	return func(g api.Grid, e api.Errno) api.Grid {
		t.Helper()
		return right(t, g, e)
	}
}

// P5.2: rolls add up, and the one back takes one back.
func TestRollsAddUp(t *testing.T) {
	got := of(t)
	ways := []int{-1 << 62, -1000003, -65, -3, -1, 0, 1, 2, 5, 64, 999983, 1<<62 - 1}
	for _, n := range sample.Sides() {
		g := sample.Numbered(n)
		for i, a := range ways {
			for j, c := range ways {
				b, d := ways[(i+5)%len(ways)], ways[(j+7)%len(ways)]
				twice := got(grid.Roll(got(grid.Roll(g, a, b)), c, d))
				check(t, "two rolls", twice, got(grid.Roll(g, a+c, b+d)))
			}
			back := got(grid.Roll(got(grid.Roll(g, a, ways[i/2])), -a, -ways[i/2]))
			check(t, "there and back", back, g)
		}
		check(t, "once round", got(grid.Roll(g, n, -n)), g)
		check(t, "from the greatest int back", got(grid.Roll(got(grid.Roll(g, math.MaxInt, -math.MaxInt)), -math.MaxInt, math.MaxInt)), g)
	}
}

// P5.2: four quarters are none, and quarters add up.
func TestQuartersAddUp(t *testing.T) {
	got := of(t)
	for _, n := range sample.Sides() {
		for _, g := range sample.Grids(n) {
			four := g
			for k := range 4 {
				check(t, "quarters one by one", four, got(grid.Quarter(g, k)))
				four = got(grid.Quarter(four, 1))
			}
			check(t, "four quarters", four, g)
			check(t, "four quarters at once", got(grid.Quarter(g, 4)), g)
			for k := -5; k <= 5; k++ {
				check(t, "quarters there and back", got(grid.Quarter(got(grid.Quarter(g, k)), -k)), g)
			}
		}
	}
}

// P5.2: two mirrors are none; a mirror between two quarters is a mirror.
func TestMirrors(t *testing.T) {
	got := of(t)
	for _, n := range sample.Sides() {
		for _, g := range sample.Grids(n) {
			mirror := got(grid.Mirror(g))
			check(t, "two mirrors", got(grid.Mirror(mirror)), g)
			for _, k := range []int{1, 2, 3, -1, 5} {
				between := got(grid.Quarter(got(grid.Mirror(got(grid.Quarter(g, k)))), k))
				check(t, "a mirror between", between, mirror)
			}
		}
	}
}

// sumOf: the sum of a grid that is sound.
func sumOf(t *testing.T, g api.Grid) complex128 {
	t.Helper()
	s, e := grid.Sum(g)
	if e != api.OK {
		t.Fatalf("Sum: error %d", e)
	}
	return s
}

// P5.3: sums go through Add, Sub and Times; Add and Sub take one another back.
func TestSumGoesThrough(t *testing.T) {
	added, multiplied := 0, 0
	for _, n := range sample.Sides() {
		for _, a := range sample.Grids(n) {
			for _, b := range sample.Grids(n) {
				if c, e := grid.Add(a, b); e == api.OK {
					added++
					if got, want := sumOf(t, c), cx.Add(sumOf(t, a), sumOf(t, b)); got != want {
						t.Fatalf("side %d, Add: %v, not %v", n, got, want)
					}
					check(t, "Sub behind Add", of(t)(grid.Sub(c, b)), a)
				}
				if c, e := grid.Sub(a, b); e == api.OK {
					added++
					if got, want := sumOf(t, c), cx.Sub(sumOf(t, a), sumOf(t, b)); got != want {
						t.Fatalf("side %d, Sub: %v, not %v", n, got, want)
					}
					check(t, "Add behind Sub", of(t)(grid.Add(c, b)), a)
				}
			}
			for _, v := range factors() {
				if c, e := grid.Times(a, v); e == api.OK {
					multiplied++
					if got, want := sumOf(t, c), pairOf(sumOf(t, a)).times(pairOf(v)).number(); got != want {
						t.Fatalf("side %d, Times %v: %v, not %v", n, v, got, want)
					}
				}
			}
		}
	}
	if added < 500 || multiplied < 500 {
		t.Errorf("%d sums and %d products that were not refused are too few to tell", added, multiplied)
	}
}

// P5.3: rolls, mirrors and quarters do not change the sum.
func TestSumStays(t *testing.T) {
	got := of(t)
	for _, n := range sample.Sides() {
		for _, g := range sample.Grids(n) {
			want := sumOf(t, g)
			for _, d := range []int{math.MinInt, -n - 1, -1, 0, 1, 2, n, math.MaxInt} {
				for _, h := range []api.Grid{got(grid.Roll(g, d, 1)), got(grid.Roll(g, -2, d)), got(grid.Mirror(g)), got(grid.Quarter(g, d))} {
					if s := sumOf(t, h); s != want {
						t.Fatalf("side %d, %d: %v, not %v", n, d, s, want)
					}
				}
			}
		}
	}
}
