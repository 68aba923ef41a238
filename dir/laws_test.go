package dir_test

import (
	"slices"
	"testing"

	"penumbra/api"
	"penumbra/dir"
	"penumbra/sample"
)

// P6.2: any multiple of a direction leads back to it.
func TestOneForm(t *testing.T) {
	for _, d := range forms(16) {
		for _, times := range factors() {
			if d.P == -16 && times == -1<<59 { // one more than the greatest int
				continue
			}
			if got, e := dir.Normal(d.P*times, d.Q*times); right(t, got, e) != d {
				t.Fatalf("%v times %d: %v", d, times, got)
			}
		}
	}
}

// P6.2: All has each direction once, and rises by Cmp.
func TestAllRises(t *testing.T) {
	for k := 1; k <= 16; k++ {
		all, e := dir.All(k)
		right(t, all, e)
		for j := 1; j < len(all); j++ {
			if dir.Cmp(all[j-1], all[j]) != -1 {
				t.Fatalf("%d steps: %v ahead of %v", k, all[j-1], all[j])
			}
		}
		for p := -k; p <= k; p++ {
			for q := -k; q <= k; q++ {
				if p == 0 && q == 0 {
					continue
				}
				d, e := dir.Normal(p, q)
				if right(t, d, e); !slices.Contains(all, d) {
					t.Fatalf("%d steps: %v is missing", k, d)
				}
			}
		}
	}
}

// P6.2: Cmp orders directions: either way round it tells the opposite, and what is ahead of one that is ahead is ahead.
func TestCmpOrders(t *testing.T) {
	all := forms(7)
	for _, a := range all {
		for _, b := range all {
			if dir.Cmp(a, b) != -dir.Cmp(b, a) || (dir.Cmp(a, b) == 0) != (a == b) {
				t.Fatalf("%v, %v", a, b)
			}
			for _, c := range all {
				if dir.Cmp(a, b) < 0 && dir.Cmp(b, c) < 0 && dir.Cmp(a, c) >= 0 {
					t.Fatalf("%v, %v, %v", a, b, c)
				}
			}
		}
	}
}

// P6.2: two times Across is none; one time stands at a right angle.
func TestAcrossTwice(t *testing.T) {
	for _, d := range forms(16) {
		once, e := dir.Across(d)
		if right(t, once, e); dir.Check(once) != api.OK || once.P*d.P+once.Q*d.Q != 0 {
			t.Errorf("%v: %v", d, once)
		}
		if twice, e := dir.Across(once); right(t, twice, e) != d {
			t.Errorf("%v: %v", d, twice)
		}
	}
}

// P6.3: each cell lies on just one line: the lines together hold each cell once, and Index tells the line that holds it.
func TestLinesPart(t *testing.T) {
	for _, n := range []int{1, 2, 3, 6, 16, 33, 64} {
		all := sample.Dirs()
		if n <= 6 {
			all = forms(16)
		}
		for _, d := range all {
			bins, e := dir.Bins(n, d)
			held := map[api.Cell]int{}
			for bin := range right(t, bins, e) {
				cells, e := dir.Line(n, d, bin)
				for _, c := range right(t, cells, e) {
					held[c]++
					if j, e := dir.Index(n, d, c.X, c.Y); right(t, j, e) != bin {
						t.Fatalf("side %d, %v: %v is held by line %d, and told to be on %d", n, d, c, bin, j)
					}
				}
			}
			for c, times := range held {
				if times != 1 {
					t.Fatalf("side %d, %v: %v is held %d times", n, d, c, times)
				}
			}
			if len(held) != n*n {
				t.Fatalf("side %d, %v: %d cells", n, d, len(held))
			}
		}
	}
}

// P6.3: two cells are on one line just if they differ by a multiple of the direction.
func TestCellsOfOneLine(t *testing.T) {
	for _, n := range []int{2, 3, 5} {
		for _, d := range forms(16) {
			pairwise(t, n, d, 1)
		}
	}
	for _, d := range sample.Dirs() {
		pairwise(t, 18, d, 5)
		pairwise(t, 64, d, 61)
	}
}

// pairwise looks at every two cells of which the first has a number that stride divides.
func pairwise(t *testing.T, n int, d api.Dir, stride int) {
	t.Helper()
	line := func(c api.Cell) int {
		j, e := dir.Index(n, d, c.X, c.Y)
		return right(t, j, e)
	}
	for i := 0; i < n*n; i += stride {
		a := api.Cell{X: i % n, Y: i / n}
		first := line(a)
		for j := range n * n {
			b := api.Cell{X: j % n, Y: j / n}
			if (first == line(b)) != differ(a, b, d) {
				t.Fatalf("side %d, %v: %v on line %d, %v on line %d", n, d, a, first, b, line(b))
			}
		}
	}
}
