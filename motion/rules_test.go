package motion_test

import (
	"math/big"

	"penumbra/api"
	"penumbra/sample"
)

// The chapter's rules as they stand: cells are moved one by one, bins too, by whole numbers without bounds.

// place: where x comes to by a step of any length; in a float64 that is exact wherever it is in a grid, or near it.
func place(n, x, by int) (int, bool) {
	to := float64(x) + float64(by)
	return int(to), to >= 0 && to < float64(n)
}

// moved: the grid so far away, and true; false where a cell that isn't 0 has left it.
func moved(g api.Grid, s api.Step) (api.Grid, bool) {
	out := sample.Filled(g.N, 0)
	for j, v := range g.Cells {
		x, across := place(g.N, j%g.N, s.X)
		y, down := place(g.N, j/g.N, s.Y)
		if across && down {
			out.Cells[y*g.N+x] = v
		} else if v != 0 {
			return api.Grid{}, false
		}
	}
	return out, true
}

// taken: what is seen of a sound grid, along directions that are right, with as many steps.
func taken(g api.Grid, dirs []api.Dir, steps []api.Step) (api.Sino, api.Errno) {
	out := api.Sino{N: g.N}
	for i, d := range dirs {
		there, whole := moved(g, steps[i])
		if !whole {
			return api.Sino{}, api.ErrLost
		}
		out.Projs = append(out.Projs, sample.Seen(there, []api.Dir{d}).Projs...)
	}
	return out, api.OK
}

// far: Q*X - P*Y.
func far(d api.Dir, s api.Step) *big.Int {
	number := func(v int) *big.Int { return big.NewInt(int64(v)) }
	across := new(big.Int).Mul(number(d.Q), number(s.X))
	down := new(big.Int).Mul(number(d.P), number(s.Y))
	return across.Sub(across, down)
}

// onAgain: the bins moved on by so many, and true; false where one that isn't 0 would be moved out.
func onAgain(bins []complex128, by *big.Int) ([]complex128, bool) {
	out := make([]complex128, len(bins))
	for i, v := range bins {
		to := new(big.Int).Add(big.NewInt(int64(i)), by)
		if to.Sign() >= 0 && to.Cmp(big.NewInt(int64(len(bins)))) < 0 {
			out[to.Int64()] = v
		} else if v != 0 {
			return nil, false
		}
	}
	return out, true
}

// undone: sound projections with as many steps, moved back.
func undone(s api.Sino, steps []api.Step) (api.Sino, api.Errno) {
	out := api.Sino{N: s.N}
	for i, p := range s.Projs {
		by := far(p.Dir, steps[i])
		bins, whole := onAgain(p.Bins, by.Neg(by))
		if !whole {
			return api.Sino{}, api.ErrLost
		}
		out.Projs = append(out.Projs, api.Proj{Dir: p.Dir, Bins: bins})
	}
	return out, api.OK
}

// slidBy: a projection with as many bins as there must be, moved on.
func slidBy(p api.Proj, by int) (api.Proj, api.Errno) {
	bins, whole := onAgain(p.Bins, big.NewInt(int64(by)))
	if !whole {
		return api.Proj{}, api.ErrLost
	}
	return api.Proj{Dir: p.Dir, Bins: bins}, api.OK
}

// drifts: all numbers by which a's bins, moved on, are b's, from the nearest to 0 on, the one above 0 ahead of that below; none is looked for beyond as many as there are bins, since there all are alike.
func drifts(a, b api.Proj) []int {
	if a.Dir != b.Dir || len(a.Bins) != len(b.Bins) {
		return nil
	}
	var out []int
	for away := range len(a.Bins) + 1 {
		for _, by := range []int{away, -away} {
			if p, e := slidBy(a, by); e == api.OK && likeNumbers(p.Bins, b.Bins) {
				out = append(out, by)
			}
		}
	}
	return out
}

// likeNumbers: noughts are alike with a sign and without, what is not a number is unlike itself.
func likeNumbers(a, b []complex128) bool {
	for i, v := range a {
		if real(v) != real(b[i]) || imag(v) != imag(b[i]) {
			return false
		}
	}
	return len(a) == len(b)
}
