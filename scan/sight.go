package scan

import (
	"sync"

	"penumbra/api"
	"penumbra/closed"
	"penumbra/dir"
	"penumbra/motion"
	"penumbra/peel"
	"penumbra/phantom"
)

// sight: how the direction at a place of the plan is seen. It takes a phantom and a plan that were looked at.
func sight(p api.Phantom, plan api.Plan) func(place int) (api.Proj, api.Errno) {
	if len(plan.Steps) == 0 {
		return func(place int) (api.Proj, api.Errno) { return closed.Project(p, plan.Dirs[place]) }
	}
	raster, _ := phantom.Raster(p)
	return func(place int) (api.Proj, api.Errno) { return steadied(raster, plan.Dirs[place], plan.Steps[place]) }
}

// steadied: what is seen of the raster that has moved, the motion taken out again.
func steadied(raster api.Grid, d api.Dir, step api.Step) (api.Proj, api.Errno) {
	steps := []api.Step{step}
	seen, err := motion.Take(raster, []api.Dir{d}, steps)
	if err == api.OK {
		seen, err = motion.Undo(seen, steps)
	}
	if err != api.OK {
		return api.Proj{}, err
	}
	return seen.Projs[0], api.OK
}

// byWorkers: each worker has places of its own, as far apart as there are workers, and writes only there, so that the answer is the same however many they are; the error is that of the first place that has one.
func byWorkers(workers int, places []int, see func(place int) (api.Proj, api.Errno)) ([]api.Proj, api.Errno) {
	projs, errs := make([]api.Proj, len(places)), make([]api.Errno, len(places))
	var group sync.WaitGroup
	for first := range workers {
		group.Add(1)
		go func() {
			defer group.Done()
			for i := first; i < len(places); i += workers {
				projs[i], errs[i] = see(places[i])
			}
		}()
	}
	group.Wait()
	for _, err := range errs {
		if err != api.OK {
			return nil, err
		}
	}
	return projs, api.OK
}

// told: what these projections, which are sound, have come to.
func told(seen api.Sino, left []api.Dir) api.Report {
	var dirs []api.Dir
	for _, p := range seen.Projs {
		dirs = append(dirs, p.Dir)
	}
	out := api.Report{Sino: seen, Left: left}
	out.Enough, _ = dir.Katz(seen.N, dirs)
	out.Open, _ = peel.Left(seen.N, dirs)
	if out.Open == 0 {
		// They are of one grid, so they don't contradict one another, and no cell is too great.
		out.Grid, _ = peel.Solve(seen)
	}
	return out
}
