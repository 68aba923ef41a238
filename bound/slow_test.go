package bound_test

import (
	"slices"
	"testing"

	"penumbra/api"
	"penumbra/sample"
)

// stairs: a ring of 2k cells in a grid of side k, two in each row and two in each column, all other cells being 0. Each of them is 0 to most; what two of them add up to is most, but that one column has 1 less: so there are none such. But it takes sweep after sweep till that shows: a bound must go all round the ring to come back higher by 1.
func stairs(k, most int) job {
	lo, hi := filled(k*k, 0), filled(k*k, 0)
	for row := range k {
		hi[row*k+row], hi[row*k+(row+1)%k] = most, most
	}
	two := func() int { return most }
	projs := summed(k, []api.Dir{{P: 1}, {Q: 1}}, two)
	projs[1].Bins[0]--
	return job{k, projs, lo, hi}
}

// P19.1: a contradiction that shows in sweep number 512 is told; one that would show in the next one is not, since all sweeps have been made, and the last one changed something.
func TestMostSweeps(t *testing.T) {
	for _, c := range []struct {
		k, most, sweeps int
		want            api.Errno
	}{
		{4, 255, 511, api.ErrClash},
		{6, 170, 511, api.ErrClash},
		{7, 146, 512, api.ErrClash},
		{14, 73, 512, api.ErrClash},
		{8, 128, 513, api.ErrFew},
		{11, 93, 513, api.ErrFew},
		{16, 64, 513, api.ErrFew},
		{6, 171, 514, api.ErrFew},
		{5, 255, 639, api.ErrFew},
		{16, 255, 2041, api.ErrFew},
	} {
		j := stairs(c.k, c.most)
		if got := told(j, 5000); got.e != api.ErrClash || got.sweeps != c.sweeps {
			t.Errorf("%d stairs, up to %d: error %d in sweep %d, not %d", c.k, c.most, got.e, got.sweeps, c.sweeps)
		}
		refused(t, j, c.want)
	}
}

// shaken: stairs with bounds that differ from cell to cell, another bin being off, by 1 more or less.
func shaken(k, most int, d *sample.Dice) job {
	j := stairs(k, most)
	for place, v := range j.hi {
		if v > 0 {
			j.lo[place], j.hi[place] = int(d.Word()%4), v-int(d.Word()%4)
		}
	}
	j.projs[1].Bins[0]++
	j.projs[d.Word()%2].Bins[d.Word()%uint64(k)] += complex(float64(d.Word()%2*2)-1, 0)
	return j
}

// P19.1: where the limit of sweeps is near: it hangs on the order of the projections whether the contradiction shows ahead of it, also where one of them comes again.
func TestNearTheMostSweeps(t *testing.T) {
	d := sample.Dice(194)
	count := map[api.Errno]int{}
	apart := 0
	for round := range 700 {
		k := 5 + round%4
		j := shaken(k, min(1036/k+int(d.Word()%uint64(50/k)), 255), &d)
		want := told(j, 512)
		check(t, j, want)
		count[want.e]++
		back := job{j.n, slices.Clone(j.projs), j.lo, j.hi}
		slices.Reverse(back.projs)
		turned := told(back, 512)
		check(t, back, turned)
		if want.e != turned.e {
			apart++
		}
		again := job{j.n, append(slices.Clone(back.projs), j.projs...), j.lo, j.hi}
		check(t, again, told(again, 512))
	}
	if count[api.ErrClash] < 100 || count[api.ErrFew] < 100 || apart < 4 {
		t.Errorf("the samples are too much alike: %v, other orders tell otherwise %d times", count, apart)
	}
}

// P19.1: bounds that draw together over many sweeps and are told: stairs that aren't joined at their ends, of which one is known, so that each sweep comes two cells further.
func TestManySweepsToTheEnd(t *testing.T) {
	d := sample.Dice(195)
	for k := 2; k <= 16; k++ {
		for range 8 {
			levels := make([]int, k*k)
			lo, hi := filled(k*k, 0), filled(k*k, 0)
			for row := range k {
				for _, column := range []int{row, row + 1} {
					if column < k {
						place := row*k + column
						levels[place], hi[place] = int(d.Word()%256), 255
					}
				}
			}
			for _, dirs := range [][]api.Dir{{{P: 1}, {Q: 1}}, {{Q: 1}, {P: 1}}} {
				j := job{k, seen(k, levels, dirs), lo, hi}
				want := told(j, 512)
				check(t, j, want)
				if want.sweeps < k/2 || !slices.Equal(want.lo, levels) || !slices.Equal(want.hi, levels) {
					t.Fatalf("%v: certain in sweep %d, or not", j, want.sweeps)
				}
			}
		}
	}
}
