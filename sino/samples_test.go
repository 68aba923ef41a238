package sino_test

import (
	"testing"

	"penumbra/api"
	"penumbra/sample"
)

func dirOf(p, q int) api.Dir { return api.Dir{P: p, Q: q} }

func projOf(p, q int, bins ...complex128) api.Proj { return api.Proj{Dir: dirOf(p, q), Bins: bins} }

func sinoOf(n int, projs ...api.Proj) api.Sino { return api.Sino{N: n, Projs: projs} }

// example: the chapter's.
func example() api.Sino { return sinoOf(2, projOf(1, 0, 7, 3), projOf(0, 1, 4, 6)) }

// A pair is a number in whole parts.
type pair struct{ re, im int64 }

// most: the greatest moment that there is along a direction.
func most(n int, d api.Dir) int64 {
	var sum int64
	for bin := range sample.BinCount(n, d) {
		sum += max(int64(bin-sample.Origin(n, d)), int64(sample.Origin(n, d)-bin))
	}
	return sum * api.MaxBin
}

// laid: the projection with that moment, as much as fits laid into the farthest bins first.
func laid(t *testing.T, n int, d api.Dir, moment pair) api.Proj {
	t.Helper()
	m := sample.Origin(n, d)
	out := api.Proj{Dir: d, Bins: make([]complex128, sample.BinCount(n, d))}
	take := func(rest *int64, weight int) float64 {
		many := min(max(*rest/int64(weight), -api.MaxBin), api.MaxBin)
		*rest -= many * int64(weight)
		return float64(many)
	}
	for far := len(out.Bins); far > 0; far-- {
		for _, bin := range []int{m - far, m + far} {
			if bin >= 0 && bin < len(out.Bins) {
				out.Bins[bin] = complex(take(&moment.re, bin-m), take(&moment.im, bin-m))
			}
		}
	}
	if moment != (pair{}) {
		t.Fatalf("side %d along %v: no projection has such a moment", n, d)
	}
	return out
}

// agreed: projections along these directions whose moments are those of mx and my.
func agreed(t *testing.T, n int, dirs []api.Dir, mx, my pair) api.Sino {
	t.Helper()
	out := api.Sino{N: n}
	for _, d := range dirs {
		p, q := int64(d.P), int64(d.Q)
		out.Projs = append(out.Projs, laid(t, n, d, pair{q*mx.re - p*my.re, q*mx.im - p*my.im}))
	}
	return out
}

// refused: with that error, and nothing beside it.
func refused(t *testing.T, name string, empty bool, e, want api.Errno) {
	t.Helper()
	if e != want || !empty {
		t.Fatalf("%s: error %d, not %d, or something beside it", name, e, want)
	}
}

func noSino(s api.Sino) bool { return s.N == 0 && len(s.Projs) == 0 }

// right: what was answered without an error.
func right[T any](t *testing.T, got T, e api.Errno) T {
	t.Helper()
	if e != api.OK {
		t.Fatalf("error %d", e)
	}
	return got
}
