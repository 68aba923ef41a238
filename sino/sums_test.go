package sino_test

import (
	"fmt"
	"testing"

	"penumbra/api"
	"penumbra/sample"
	"penumbra/sino"
)

// sameTotal: as the rules tell it, bit by bit.
func sameTotal(t *testing.T, name string, s api.Sino) api.Errno {
	t.Helper()
	want, e := totals(s)
	if v, got := sino.Total(s); got != e || !sample.Agree(v, want) {
		t.Fatalf("%s: Total: %v, error %d, not %v, error %d", name, v, got, want, e)
	}
	return e
}

// sameMoment: likewise.
func sameMoment(t *testing.T, name string, s api.Sino) api.Errno {
	t.Helper()
	wantX, wantY, e := met(s)
	if mx, my, got := sino.Moment(s); got != e || !sample.Agree(mx, wantX) || !sample.Agree(my, wantY) {
		t.Fatalf("%s: Moment: %v, %v, error %d, not %v, %v, error %d", name, mx, my, got, wantX, wantY, e)
	}
	return e
}

// is: the answers as they are written out.
func is(t *testing.T, s api.Sino, v, mx, my complex128, ofTotal, ofMoment api.Errno) {
	t.Helper()
	if got, e := sino.Total(s); e != ofTotal || !sample.Agree(got, v) {
		t.Errorf("%v: Total: %v, error %d", s, got, e)
	}
	if x, y, e := sino.Moment(s); e != ofMoment || !sample.Agree(x, mx) || !sample.Agree(y, my) {
		t.Errorf("%v: Moment: %v, %v, error %d", s, x, y, e)
	}
}

// P11.1: written out: none, one, two, and more; what agrees in one sum and not in the other; what is not whole.
func TestSumsWrittenOut(t *testing.T) {
	const clash, few = api.ErrClash, api.ErrFew
	rows, columns := projOf(1, 0, 7, 3), projOf(0, 1, 4, 6)
	is(t, sinoOf(2), 0, 0, 0, few, few)
	is(t, sinoOf(2, rows), 10, 0, 0, api.OK, few)
	is(t, sinoOf(2, columns), 10, 0, 0, api.OK, few)
	is(t, sinoOf(2, columns, rows), 10, 6, 7, api.OK, api.OK)
	is(t, sinoOf(2, rows, columns, projOf(1, 1, 3, 5, 2)), 10, 6, 7, api.OK, api.OK)
	is(t, sinoOf(2, rows, columns, projOf(-1, 1, 1, 6, 3)), 10, 0, 0, api.OK, clash)
	is(t, sinoOf(2, rows, columns, projOf(-1, 1, 0, 7, 3)), 10, 6, 7, api.OK, api.OK)
	// The bin of the first cell's line has no weight in the moment.
	is(t, sinoOf(2, rows, columns, projOf(1, 1, 3, 99, 2)), 0, 6, 7, clash, api.OK)
	is(t, sinoOf(2, projOf(1, 0, 7, -3i), columns), 0, 6, 7, clash, api.OK)
	// Sums that differ in one part alone.
	is(t, sinoOf(2, rows, projOf(0, 1, 4+1i, 6)), 0, 6, 7, clash, api.OK)
	is(t, sinoOf(2, rows, projOf(0, 1, 4, 6+1i)), 0, 6+1i, 7, clash, api.OK)
	is(t, sinoOf(2, rows, columns, projOf(1, 1, 3, 5-1i, 2+1i)), 10, 0, 0, api.OK, clash)
	// 2*mx - my and 2*mx + my: 1 and 0 make mx a quarter and my -1/2, 1 and 1 make mx alone no whole number; and so on with the second part.
	up, down := func(v complex128) api.Proj { return projOf(1, 2, 0, 0, v, 0) }, func(v complex128) api.Proj { return projOf(-1, 2, 0, v, 0, 0) }
	is(t, sinoOf(2, up(1), down(0)), 0, 0, 0, clash, clash)
	is(t, sinoOf(2, up(1), down(1)), 1, 0, 0, api.OK, clash)
	is(t, sinoOf(2, up(2), down(2)), 2, 1, 0, api.OK, api.OK)
	is(t, sinoOf(2, up(3), down(1)), 0, 1, -1, clash, api.OK)
	is(t, sinoOf(2, up(4), down(-4)), 0, 0, -4, clash, api.OK)
	is(t, sinoOf(2, up(2+1i), down(2)), 0, 0, 0, clash, clash)
	is(t, sinoOf(2, up(2+1i), down(2-1i)), 0, 1, -1i, clash, api.OK)
	is(t, sinoOf(2, up(2+1i), down(2+1i)), 2+1i, 0, 0, api.OK, clash)
	is(t, sinoOf(2, up(2+1i), down(2+3i)), 0, 1+1i, 1i, clash, api.OK)
	is(t, sinoOf(2, up(1), down(1), projOf(0, 1, 1, 0)), 1, 0, 0, api.OK, clash)
	// mx + 2*my and mx - 2*my: my alone is no whole number.
	is(t, sinoOf(2, projOf(-2, 1, 0, 1, 0, 0), projOf(2, 1, 0, 1, 0, 0)), 1, 0, 0, api.OK, clash)
	is(t, sinoOf(2, projOf(-2, 1, 0, 2, 0, 0), projOf(2, 1, 2, 0, 0, 0)), 2, 0, 0, api.OK, clash)
	// Of one cell every projection is that cell.
	is(t, sinoOf(1, projOf(3, 2, 5-1i), projOf(-16, 15, 5-1i), projOf(1, 0, 5-1i)), 5-1i, 0, 0, api.OK, api.OK)
	is(t, sinoOf(1, projOf(3, 2, 5-1i), projOf(-16, 15, 5)), 0, 0, 0, clash, api.OK)
}

// P11.1: of sound projections of every kind, most of which contradict themselves.
func TestSumsByTheRules(t *testing.T) {
	seen := map[string]int{}
	for _, n := range sample.Sides() {
		for i, s := range sample.Sinos(n) {
			name := fmt.Sprintf("side %d, number %d", n, i)
			seen[fmt.Sprint(sameTotal(t, name, s), sameMoment(t, name, s))]++
		}
	}
	if len(seen) < 4 {
		t.Errorf("too few kinds: %v", seen)
	}
}

// P11.1: projections of a grid with one bin changed, and with a value that has moved from bin to bin.
func TestOneBinChanged(t *testing.T) {
	d := sample.Dice(77)
	for _, n := range []int{2, 3, 8, 13} {
		for i, dirs := range [][]api.Dir{sample.Dirs()[:3], sample.Dirs(), sample.Wheel()[:12], sample.Wheel()[40:43]} {
			s := sample.Seen(sample.Grids(n)[2+i], dirs)
			for place, p := range s.Projs {
				for _, bin := range []int{0, len(p.Bins) - 1, sample.Origin(n, p.Dir), int(d.Word() % uint64(len(p.Bins)))} {
					name := fmt.Sprintf("side %d, along %v, bin %d", n, p.Dir, bin)
					for _, more := range []complex128{1, -1i, -7 + 1<<20*1i} {
						flawed := sample.WithBin(s, place, bin, p.Bins[bin]+more)
						if e := sameTotal(t, name, flawed); e != api.ErrClash {
							t.Fatalf("%s: Total: error %d", name, e)
						}
						clash := sameMoment(t, name, flawed) == api.ErrClash
						if clash != (bin != sample.Origin(n, p.Dir)) {
							t.Fatalf("%s: Moment clashes: %t", name, clash)
						}
						next := (bin + 1) % len(p.Bins)
						moved := sample.WithBin(flawed, place, next, p.Bins[next]-more)
						if sameTotal(t, name, moved) != api.OK || sameMoment(t, name, moved) != api.ErrClash {
							t.Fatalf("%s: moved on: not told", name)
						}
					}
				}
			}
		}
	}
}

// P11.1: two projections, of which one alone may tell mx or my, with any moments.
func TestTwoProjections(t *testing.T) {
	d := sample.Dice(3)
	lists := [][]api.Dir{sample.Dirs(), sample.Wheel()}
	seen := map[api.Errno]int{}
	for i := range 6000 {
		pick := func() api.Dir { l := lists[d.Word()%2]; return l[d.Word()%uint64(len(l))] }
		a, b := pick(), pick()
		if a == b {
			continue
		}
		n := []int{2, 3, 5, 9}[i%4]
		small := func() pair { return pair{int64(d.UpTo(2000)()), int64(d.UpTo(3)()) * int64(i%2)} }
		s := sinoOf(n, laid(t, n, a, small()), laid(t, n, b, small()))
		seen[sameMoment(t, fmt.Sprintf("side %d, along %v and %v", n, a, b), s)]++
	}
	if seen[api.OK] < 100 || seen[api.ErrClash] < 1000 {
		t.Errorf("too few of a kind: %v", seen)
	}
}

// P11.1: many projections with the moments of mx and my that no grid need have; and with one of them off by one, in either part.
func TestManyProjections(t *testing.T) {
	d := sample.Dice(4)
	for i, n := range []int{2, 3, 8, 17, 64} {
		for k, dirs := range [][]api.Dir{sample.Dirs(), sample.Wheel()[i : i+3], sample.Wheel()[100 : 110+i]} {
			most := []int{3, 5000, 1 << 26}[k]
			mx, my := pair{int64(d.UpTo(most)()), int64(d.UpTo(most)())}, pair{int64(d.UpTo(most)()), int64(d.UpTo(3)())}
			s := agreed(t, n, dirs, mx, my)
			name := fmt.Sprintf("side %d, %d projections of %v, %v", n, len(dirs), mx, my)
			if sameMoment(t, name, s) != api.OK {
				t.Fatalf("%s: not told", name)
			}
			for place, p := range s.Projs {
				m := sample.Origin(n, p.Dir)
				near := m + 1
				if near == len(p.Bins) {
					near = m - 1
				}
				for _, more := range []complex128{1, -1, 1i, -1i} {
					if v := p.Bins[near] + more; real(v) <= api.MaxBin && sameMoment(t, name, sample.WithBin(s, place, near, v)) != api.ErrClash {
						t.Fatalf("%s, along %v: off by one, and not told", name, p.Dir)
					}
				}
			}
		}
	}
}
