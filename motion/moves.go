package motion

import (
	"slices"

	"penumbra/api"
	"penumbra/dir"
	"penumbra/grid"
)

// lookThrough: the grid comes first, then how many directions there are, then what each of them is, of which layer 6 tells the first fault.
func lookThrough(g api.Grid, dirs []api.Dir) api.Errno {
	if err := grid.Check(g); err != api.OK {
		return err
	}
	if len(dirs) > api.MaxDirs {
		return api.ErrLong
	}
	_, err := dir.Katz(g.N, dirs)
	return err
}

// staysIn: does every cell that isn't 0 stay in the grid, with each of these steps?
func staysIn(g api.Grid, steps []api.Step) bool {
	least, greatest, found := grid.Box(g)
	if !found {
		return true
	}
	// A step is held against the room on each side, since its sum with a place need not be an int.
	last := g.N - 1
	return !slices.ContainsFunc(steps, func(s api.Step) bool {
		return s.X < -least.X || s.X > last-greatest.X || s.Y < -least.Y || s.Y > last-greatest.Y
	})
}

// onward: how far a step moves bins on along a direction, Q*X - P*Y; where that is further than any bins reach, another number that is, on the same side.
func onward(d api.Dir, s api.Step) int {
	// The products of any int need not be ints, those of its upper and of its lower bits are; far of the upper ones are beyond all bins.
	const unit, far = 1 << 16, 1 << 12
	upper := d.Q*(s.X>>16) - d.P*(s.Y>>16)
	lower := d.Q*(s.X&(unit-1)) - d.P*(s.Y&(unit-1))
	return min(max(upper, -far), far)*unit + lower
}

// slid: the bins moved on by so many, and true; false where one that isn't 0 would be moved out.
func slid(bins []complex128, by int) ([]complex128, bool) {
	many := len(bins)
	by = min(max(by, -many), many) // all of them are out by then, and no place goes round
	from, to := max(-by, 0), many-max(by, 0)
	if slices.ContainsFunc(bins[:from], isNot0) || slices.ContainsFunc(bins[to:], isNot0) {
		return nil, false
	}
	out := make([]complex128, many)
	copy(out[from+by:], bins[from:to])
	return out, true
}

// isNot0: as a number, so a nought with a sign is 0, and what is not a number isn't.
func isNot0(v complex128) bool { return v != 0 }

// apart: how far the first bins that aren't 0 lie apart. Bins that are moved on keep their order, so it is no other number of them, one way or the other; where there are none but 0, the nearest number is 0.
func apart(a, b []complex128) int {
	by := slices.IndexFunc(b, isNot0) - slices.IndexFunc(a, isNot0)
	return max(by, -by)
}
