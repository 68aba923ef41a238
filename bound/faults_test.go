package bound_test

import (
	"slices"
	"testing"

	"penumbra/api"
	"penumbra/sample"
)

// lists: of projections for side n, with faults and without, each of which comes behind a fault of the bounds.
func lists(n int) [][]api.Proj {
	wheel := sample.Wheel()
	return [][]api.Proj{nil, {}, {{}}, {{Dir: wheel[5]}}, make([]api.Proj, 65), summed(n, wheel[:3], func() int { return 0 }), summed(n, wheel[:3], func() int { return 9999 }), summed(n, wheel[:65], func() int { return 0 })}
}

// P19.1: what is no side is told ahead of all else, whatever lists stand beside it.
func TestNoSides(t *testing.T) {
	for _, n := range noSmalls() {
		for _, many := range []int{0, 1, 4, 256, 289} {
			for _, projs := range lists(2) {
				refused(t, job{n, projs, filled(many, 0), filled(many, 255)}, api.ErrArg)
				refused(t, job{n, projs, filled(many, 5), filled(many, 0)}, api.ErrArg)
			}
		}
	}
	// As many bounds as such a side has cells.
	for _, n := range []int{17, 18, 64} {
		refused(t, job{n, nil, filled(n*n, 0), filled(n*n, 255)}, api.ErrArg)
	}
}

// P19.1: then too few bounds or too many, and what is no level, in either list, ahead of all that is wrong with projections or contradicted.
func TestNoBounds(t *testing.T) {
	for n := 1; n <= 16; n++ {
		lo, hi := wide(n)
		for _, many := range []int{0, 1, n, n*n - 1, n*n + 1, 2 * n * n, (n + 1) * (n + 1), 70000} {
			if many == n*n {
				continue
			}
			for _, projs := range lists(n) {
				refused(t, job{n, projs, filled(many, 0), hi}, api.ErrArg)
				refused(t, job{n, projs, lo, filled(many, 255)}, api.ErrArg)
				refused(t, job{n, projs, filled(many, 9), filled(many, 0)}, api.ErrArg)
			}
		}
		// Room for the missing ones is no number.
		refused(t, job{n, nil, make([]int, n*n-1, n*n+5), hi}, api.ErrArg)
		refused(t, job{n, nil, lo, make([]int, n*n-1, n*n+5)}, api.ErrArg)
		for k, v := range noLevels() {
			for _, place := range []int{0, n * n / 2, n*n - 1} {
				projs := lists(n)[(k+place)%8]
				refused(t, job{n, projs, with(lo, place, v), hi}, api.ErrArg)
				refused(t, job{n, projs, lo, with(hi, place, v)}, api.ErrArg)
				refused(t, job{n, projs, with(lo, place, v), with(hi, place, v)}, api.ErrArg)
				refused(t, job{n, projs, hi, with(lo, place, v)}, api.ErrArg)
			}
		}
	}
}

// seats: where bounds may stand while projections are at fault: wide ones, certain ones, and ones that are contradicted, which is told behind all faults.
func seats(n int) [][2][]int {
	lo, hi := wide(n)
	return [][2][]int{{lo, hi}, {lo, lo}, {hi, lo}, {with(lo, n*n-1, 1), lo}}
}

// P19.1: too many projections ahead of what is wrong in one of them; then the first one that has a fault, its direction ahead of its bins; all of them ahead of bounds that are contradicted.
func TestFaultsOfProjections(t *testing.T) {
	for _, n := range []int{1, 2, 3, 5, 13, 16} {
		for _, flaw := range sample.LaidFlaws(n) {
			for _, start := range seats(n) {
				// Bins of any values would be faults of their own, ahead of the one that is looked for.
				projs := blank(flaw.Sino.Projs)
				refused(t, job{n, projs, start[0], start[1]}, flaw.Want)
			}
		}
	}
}

// blank: with each bin 0.
func blank(projs []api.Proj) []api.Proj {
	out := slices.Clone(projs)
	for i, p := range out {
		out[i].Bins = make([]complex128, len(p.Bins))
	}
	return out
}

// noSums: what is no bin of levels: no bin at all, or below 0, or with a second part.
func noSums() []complex128 {
	return append(sample.NoBins(), -1, -2, -255, -api.MaxBin, 1i, -1i, 3+1i, 255-1i, complex(0, api.MaxBin), complex(api.MaxBin, 1), complex(5, sample.MinusNought()), complex(sample.MinusNought(), 0))
}

// P19.1: what is no bin of levels, wherever it stands; ahead of a direction that is none behind it, and behind one ahead of it.
func TestNoSums(t *testing.T) {
	wheel := sample.Wheel()
	none, short := sample.Proj(2, 2, 1, 2, 3), api.Proj{Dir: wheel[9]}
	for _, n := range []int{1, 2, 3, 13, 16} {
		clean := api.Sino{N: n, Projs: summed(n, wheel[:4], func() int { return 0 })}
		for k, v := range noSums() {
			for place, p := range clean.Projs {
				bin := []int{0, k % len(p.Bins), len(p.Bins) - 1}[k%3]
				flawed := sample.WithBin(clean, place, bin, v).Projs
				start := seats(n)[(k+place)%4]
				refused(t, job{n, flawed, start[0], start[1]}, api.ErrBins)
				refused(t, job{n, append(slices.Clone(flawed), none), start[0], start[1]}, api.ErrBins)
				refused(t, job{n, append(slices.Clone(flawed), short), start[0], start[1]}, api.ErrBins)
				refused(t, job{n, append([]api.Proj{none}, flawed...), start[0], start[1]}, api.ErrDir)
			}
		}
		// A direction that is none is told ahead of its own bins.
		for _, d := range sample.NoDirs() {
			for _, v := range []complex128{-1, 1i, 0.5, 7} {
				lo, hi := wide(n)
				refused(t, job{n, []api.Proj{{Dir: d, Bins: []complex128{v}}}, lo, hi}, api.ErrDir)
			}
		}
	}
}

// P19.1: the greatest bin there is contradicts the bounds, and is no fault.
func TestGreatestBin(t *testing.T) {
	for n := 1; n <= 16; n++ {
		lo, hi := wide(n)
		refused(t, job{n, summed(n, []api.Dir{{P: 1}}, func() int { return api.MaxBin }), lo, hi}, api.ErrClash)
		refused(t, job{n, summed(n, []api.Dir{{P: 1}}, func() int { return api.MaxBin + 1 }), lo, hi}, api.ErrBins)
		refused(t, job{n, summed(n, []api.Dir{{P: 1}}, func() int { return 255*n + 1 }), lo, hi}, api.ErrClash)
		check(t, job{n, summed(n, []api.Dir{{P: 1}}, func() int { return 255 * n }), lo, hi}, answer{lo: hi, hi: hi})
	}
}

// P19.1: likewise of each fault wherever it stands; one direction may stand twice.
func TestFaultsOfSinos(t *testing.T) {
	count := map[api.Errno]int{}
	for _, flaw := range sample.SinoFlaws() {
		n, projs := flaw.Sino.N, flaw.Sino.Projs
		j := job{n: n, projs: projs}
		if n > 0 && n <= 64 {
			j.lo, j.hi = wide(n)
		}
		want := told(j, 512)
		check(t, j, want)
		count[want.e]++
		if flaw.Want == api.ErrTwice {
			j.projs = blank(projs)
			want = told(j, 512)
			check(t, j, want)
			count[want.e]++
		}
	}
	for _, e := range []api.Errno{api.OK, api.ErrArg, api.ErrLong, api.ErrDir, api.ErrBins} {
		if count[e] < 15 {
			t.Errorf("only %d of them are told error %d", count[e], e)
		}
	}
}
