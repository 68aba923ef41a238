package ghost

import (
	"penumbra/api"
	"penumbra/cx"
)

func isSide(n int) bool { return n >= 1 && n <= api.MaxSide }

// isSound looks at the sides first: the product of any two int need not be an int.
func isSound(h api.Ghost) bool {
	if !isSide(h.W) || !isSide(h.H) || len(h.Cells) != h.W*h.H {
		return false
	}
	for _, v := range h.Cells {
		if !cx.Whole(v, api.MaxWorth) {
			return false
		}
	}
	return true
}

// doubled lays two copies of h over one another, the second one a step of d on and turned to its negative, so that they cancel out on each line along d. Both are moved to the right where the step leads to the left, so that no place is below 0.
func doubled(h api.Ghost, d api.Dir) api.Ghost {
	out := api.Ghost{W: h.W + max(d.P, -d.P), H: h.H + d.Q}
	out.Cells = make([]complex128, out.W*out.H)
	first := max(-d.P, 0)
	second := d.Q*out.W + max(d.P, 0)
	for place, v := range h.Cells {
		at := place/h.W*out.W + place%h.W
		out.Cells[at+first] = cx.Add(out.Cells[at+first], v)
		out.Cells[at+second] = cx.Sub(out.Cells[at+second], v) // of noughts without a sign +0, as a turned sign would not be
	}
	return out
}

// liesWithin: is a length from there on wholly within the side? Held against what is left of the side, since the sum of any int need not be an int.
func liesWithin(side, length, from int) bool { return from >= 0 && from <= side-length }

// sumsByLines: two cells lie on one line along d just if they have the same Q*x - P*y, since the direction is in its one form. The sums are exact.
func sumsByLines(h api.Ghost, d api.Dir) map[int]complex128 {
	sums := map[int]complex128{}
	for place, v := range h.Cells {
		line := d.Q*(place%h.W) - d.P*(place/h.W)
		sums[line] = cx.Add(sums[line], v)
	}
	return sums
}
