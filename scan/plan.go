package scan

import (
	"slices"

	"penumbra/api"
	"penumbra/dir"
	"penumbra/phantom"
)

// lookThrough: the phantom comes first, then how many directions there are, then what each of them is, of which layer 6 tells the first fault.
func lookThrough(p api.Phantom, dirs []api.Dir) api.Errno {
	if err := phantom.Check(p); err != api.OK {
		return err
	}
	if len(dirs) > api.MaxDirs {
		return api.ErrLong
	}
	_, err := dir.Katz(p.N, dirs)
	return err
}

// rise: does each place stand above the one ahead of it, and are all of them places of so many directions?
func rise(places []int, many int) bool {
	above := 0
	for _, place := range places {
		if place < above || place >= many {
			return false
		}
		above = place + 1 // a place is below many, so this is an int
	}
	return true
}

// parted: the places of the directions that aren't missing, and the directions that are.
func parted(plan api.Plan) (places []int, left []api.Dir) {
	for place, d := range plan.Dirs {
		if slices.Contains(plan.Missing, place) {
			left = append(left, d)
		} else {
			places = append(places, place)
		}
	}
	return places, left
}
