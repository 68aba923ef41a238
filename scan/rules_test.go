package scan_test

import (
	"slices"

	"penumbra/api"
	"penumbra/closed"
	"penumbra/dir"
	"penumbra/motion"
	"penumbra/peel"
	"penumbra/phantom"
)

// The chapter's words as they stand, by the calls of the layers beneath, one direction after the other.

// dirsFault: the errors that Check and Least have in common.
func dirsFault(p api.Phantom, dirs []api.Dir) api.Errno {
	if e := phantom.Check(p); e != api.OK {
		return e
	}
	if len(dirs) > 64 {
		return api.ErrLong
	}
	for i, d := range dirs {
		if e := dir.Check(d); e != api.OK {
			return e
		}
		if slices.Contains(dirs[:i], d) {
			return api.ErrTwice
		}
	}
	return api.OK
}

// planFault: the first error, ErrLost left out.
func planFault(p api.Phantom, plan api.Plan) api.Errno {
	if e := dirsFault(p, plan.Dirs); e != api.OK {
		return e
	}
	for i, place := range plan.Missing {
		if place < 0 || place > len(plan.Dirs)-1 || i > 0 && place <= plan.Missing[i-1] {
			return api.ErrPlan
		}
	}
	if many := len(plan.Steps); many > 0 && many != len(plan.Dirs) {
		return api.ErrPlan
	}
	if plan.Workers < 1 || plan.Workers > 16 {
		return api.ErrArg
	}
	return api.OK
}

// others: the directions that aren't missing.
func others(plan api.Plan) []api.Dir {
	var out []api.Dir
	for place, d := range plan.Dirs {
		if !slices.Contains(plan.Missing, place) {
			out = append(out, d)
		}
	}
	return out
}

// seenAt: what is seen at one place of a plan.
func seenAt(p api.Phantom, plan api.Plan, place int) (api.Proj, api.Errno) {
	d := plan.Dirs[place]
	if len(plan.Steps) == 0 {
		return closed.Project(p, d)
	}
	raster, e := phantom.Raster(p)
	if e != api.OK {
		return api.Proj{}, e
	}
	moved, e := motion.Take(raster, []api.Dir{d}, []api.Step{plan.Steps[place]})
	if e != api.OK {
		return api.Proj{}, e
	}
	still, e := motion.Undo(moved, []api.Step{plan.Steps[place]})
	if e != api.OK {
		return api.Proj{}, e
	}
	return still.Projs[0], api.OK
}

// ruled: the report.
func ruled(p api.Phantom, plan api.Plan) (api.Report, api.Errno) {
	if e := planFault(p, plan); e != api.OK {
		return api.Report{}, e
	}
	out := api.Report{Sino: api.Sino{N: p.N}}
	for place, d := range plan.Dirs {
		if slices.Contains(plan.Missing, place) {
			out.Left = append(out.Left, d)
			continue
		}
		seen, e := seenAt(p, plan, place)
		if e != api.OK {
			return api.Report{}, e
		}
		out.Sino.Projs = append(out.Sino.Projs, seen)
	}
	out.Enough, _ = dir.Katz(p.N, others(plan))
	out.Open, _ = peel.Left(p.N, others(plan))
	if out.Open == 0 {
		out.Grid, _ = peel.Solve(out.Sino)
	}
	return out, api.OK
}

// needed: how many of the directions leave no cell open.
func needed(p api.Phantom, dirs []api.Dir) (int, api.Errno) {
	if e := dirsFault(p, dirs); e != api.OK {
		return 0, e
	}
	for many := range len(dirs) + 1 {
		open, _ := peel.Open(p.N, dirs[:many])
		if !slices.Contains(open, true) {
			return many, api.OK
		}
	}
	return -1, api.OK
}
