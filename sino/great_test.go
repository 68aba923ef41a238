package sino_test

import (
	"fmt"
	"math"
	"slices"
	"testing"

	"penumbra/api"
	"penumbra/sample"
	"penumbra/sino"
)

// neighbours: pairs of directions between which there is none of fewer steps, so that all moments of theirs make whole mx and my, and the greatest there are.
func neighbours(least int) [][]api.Dir {
	var out [][]api.Dir
	for _, a := range sample.Wheel() {
		for _, b := range sample.Wheel() {
			if max(a.P, -a.P)+a.Q+max(b.P, -b.P)+b.Q >= least && a.P*b.Q-a.Q*b.P == 1 {
				out = append(out, []api.Dir{a, b}, []api.Dir{b, a})
			}
		}
	}
	return out
}

// third: one of the greatest steps that is none of these.
func third(dirs []api.Dir) api.Dir {
	all := []api.Dir{dirOf(15, 16), dirOf(-16, 15), dirOf(16, 13)}
	return all[slices.IndexFunc(all, func(d api.Dir) bool { return !slices.Contains(dirs, d) })]
}

// P11.1: bins of the greatest parts, of each sign, all of them or those on one side of the first cell's line.
func TestGreatestBins(t *testing.T) {
	for _, dirs := range neighbours(50) {
		for _, signs := range [][2]float64{{1, 1}, {1, -1}, {-1, 1}, {-1, -1}} {
			s := api.Sino{N: 64}
			for k, d := range dirs {
				p := api.Proj{Dir: d, Bins: make([]complex128, sample.BinCount(64, d))}
				for bin := range p.Bins {
					far := float64(bin - sample.Origin(64, d))
					p.Bins[bin] = complex(math.Copysign(api.MaxBin, far*signs[k]), -signs[k]*api.MaxBin)
				}
				s.Projs = append(s.Projs, p)
			}
			if e := sameMoment(t, fmt.Sprintf("along %v, signs %v", dirs, signs), s); e != api.OK {
				t.Fatalf("along %v: error %d", dirs, e)
			}
			// No third one of steps so great has the moment that these ask for.
			s.Projs = append(s.Projs, laid(t, 64, third(dirs), pair{}))
			if e := sameMoment(t, fmt.Sprintf("along %v, signs %v, and a third", dirs, signs), s); e != api.ErrClash {
				t.Fatalf("along %v: error %d", sino.Dirs(s), e)
			}
		}
	}
}

// P11.1: parts of more than 53 bits are told rounded, of two floats that are as near the even one.
func TestRounded(t *testing.T) {
	d := sample.Dice(8)
	longer, halves := 0, 0
	for _, dirs := range neighbours(40) {
		pick := func(d0 api.Dir) int64 {
			limit := most(64, d0)
			return int64(d.Word()%uint64(2*limit+1)) - limit
		}
		for range 3 {
			a, b := pair{pick(dirs[0]), pick(dirs[0])}, pair{pick(dirs[1]), pick(dirs[1])}
			s := sinoOf(64, laid(t, 64, dirs[0], a), laid(t, 64, dirs[1], b))
			sameMoment(t, fmt.Sprintf("along %v, moments %v, %v", dirs, a, b), s)
			mx := int64(dirs[0].P)*b.re - int64(dirs[1].P)*a.re
			if int64(float64(mx)) != mx {
				longer++
			}
			if size := max(mx, -mx); size>>53 == 1 && size&1 == 1 {
				halves++
			}
		}
	}
	if longer < 100 || halves < 5 {
		t.Errorf("%d are rounded, %d of them half way", longer, halves)
	}
}

// P11.1: written out. With (-16, 15) and (-15, 14) the moments s and r make mx = 15*s - 16*r and my = 15*r - 14*s.
func TestRoundedWrittenOut(t *testing.T) {
	a, b, c := dirOf(-16, 15), dirOf(-15, 14), dirOf(-14, 13)
	for _, x := range []struct {
		s, r   int64
		mx, my float64
	}{
		{1 << 49, 0, 15 << 49, -14 << 49},
		{1<<52 + 1<<51, -1<<52 - 1<<51, 93 << 51, -87 << 51}, // exact though long
		{-1<<50 - 1, -1 << 50, 1<<50 - 15, -1<<50 + 14},      // exact
		{1 << 52, 1, 15<<52 - 16, -14<<52 + 16},              // my is 1 less; it is 8 from float to float
		{0, -1<<52 - 1, 1<<56 + 16, -15<<52 - 16},            // my is 1 more
		{1<<52 + 1, -1<<52 + 1, 31 << 52, -29 << 52},         // mx is 1 less, my 1 more
		{1 << 52, 4, 15<<52 - 64, -14<<52 + 64},              // my is 4 less, half way
		{1 << 52, -4, 15<<52 + 64, -14<<52 - 64},             // my is 4 more, half way
		{1 << 52, 12, 15<<52 - 192, -14<<52 + 176},           // my is 4 more, half way
	} {
		s := sinoOf(64, laid(t, 64, a, pair{x.s, 0}), laid(t, 64, b, pair{x.r, x.r}))
		mx, my, e := sino.Moment(s)
		if e != api.OK || real(mx) != x.mx || real(my) != x.my {
			t.Errorf("%v: %v, %v, error %d", x, mx, my, e)
		}
		sameMoment(t, fmt.Sprint(x), s)
	}
	// Three that agree in numbers of 55 bits; a third that is off by one does not.
	const much = 1<<50 + 3
	s := sinoOf(64, laid(t, 64, a, pair{much, -much}), laid(t, 64, b, pair{0, 1}), laid(t, 64, c, pair{-much, much + 2}))
	if mx, my, e := sino.Moment(s); e != api.OK || mx != complex(15*much, -15*much-16) || my != complex(-14*much, 14*much+15) {
		t.Errorf("three: %v, %v, error %d", mx, my, e)
	}
	for place := range s.Projs {
		for _, more := range []complex128{1, -1, 1i, -1i} {
			if e := sameMoment(t, "off by one", sample.WithBin(s, place, 1, s.Projs[place].Bins[1]+more)); e != api.ErrClash {
				t.Errorf("number %d, %v more: error %d", place, more, e)
			}
		}
	}
}

// P11.1: chains of directions whose moments rise evenly, up to the greatest that the last one has.
func TestLongChains(t *testing.T) {
	d := sample.Dice(9)
	chain := []api.Dir{dirOf(-16, 15), dirOf(-15, 14), dirOf(-14, 13), dirOf(-13, 12), dirOf(-12, 11)}
	turns := []func(api.Dir) api.Dir{
		func(d api.Dir) api.Dir { return d }, func(d api.Dir) api.Dir { return api.Dir{P: -d.P, Q: d.Q} },
		func(d api.Dir) api.Dir { return api.Dir{P: -d.Q, Q: -d.P} }, func(d api.Dir) api.Dir { return api.Dir{P: d.Q, Q: -d.P} },
	}
	for many := 3; many <= len(chain); many++ {
		for k, turn := range turns {
			var dirs []api.Dir
			for _, d := range chain[:many] {
				dirs = append(dirs, turn(d))
			}
			limit := most(64, dirs[many-1]) / int64(2*many)
			for range 10 {
				first, step := pair{int64(d.UpTo(int(limit))()), int64(d.UpTo(int(limit))())}, pair{int64(d.UpTo(int(limit))()), limit}
				s := api.Sino{N: 64}
				for i, along := range dirs {
					s.Projs = append(s.Projs, laid(t, 64, along, pair{first.re + int64(i)*step.re, first.im + int64(i)*step.im}))
				}
				name := fmt.Sprintf("along %v, moments from %v, each %v more", dirs, first, step)
				if e := sameMoment(t, name, s); e != api.OK {
					t.Fatalf("%s: turned %d: error %d", name, k, e)
				}
				last := s.Projs[many-1]
				near := sample.Origin(64, last.Dir) + 1
				if e := sameMoment(t, name, sample.WithBin(s, many-1, near, last.Bins[near]+1)); e != api.ErrClash && real(last.Bins[near]) < api.MaxBin {
					t.Fatalf("%s: off by one, error %d", name, e)
				}
			}
		}
	}
}

// P11.1: Total stays exact where the bins are the greatest there are.
func TestGreatTotals(t *testing.T) {
	a, b := dirOf(-16, 15), dirOf(15, 16)
	fill := func(d api.Dir, v complex128) api.Proj {
		p := api.Proj{Dir: d, Bins: make([]complex128, sample.BinCount(64, d))}
		for bin := range p.Bins {
			p.Bins[bin] = v
		}
		return p
	}
	v := complex(api.MaxBin, -api.MaxBin)
	s := sinoOf(64, fill(a, v), fill(b, v))
	if got, e := sino.Total(s); e != api.OK || got != complex(1954*api.MaxBin, -1954*api.MaxBin) {
		t.Errorf("%v, error %d", got, e)
	}
	for _, place := range []int{0, 1} {
		for _, less := range []complex128{1, 1i} {
			off := sample.WithBin(s, place, 1000, v-complex(real(less), -imag(less)))
			if got, e := sino.Total(off); got != 0 || e != api.ErrClash {
				t.Errorf("one off by %v: %v, error %d", less, got, e)
			}
		}
	}
}
