package scan_test

import (
	"math"
	"slices"
	"testing"

	"penumbra/api"
	"penumbra/sample"
)

// notRising: lists that are no missing places of so many directions: one that is below 0, or too great, or an end of int, alone, ahead of others and behind them; such that fall, and such that stand twice.
func notRising(many int) [][]int {
	out := [][]int{{-1}, {many}, {many + 1}, {-1, 0}, {0, 0}, {-2, -1}, {many, many + 1}, {math.MaxInt, math.MinInt}, {math.MinInt, math.MaxInt}, {many - 1, many}, append(sample.Count(many), many), append([]int{-1}, sample.Count(many)...), append(sample.Count(many), many-1), append(sample.Count(many), 0), sample.Count(many + 1), sample.Count(70000), make([]int, 2), make([]int, 70000)}
	for _, end := range sample.Ends() {
		out = append(out, []int{end}, []int{0, end}, []int{end, many - 1}, append(sample.Count(many), end))
	}
	for place := range many {
		out = append(out, []int{place, place}, []int{place, -1}, []int{-1, place}, []int{place, many}, []int{place, place, place})
		if place > 0 {
			out = append(out, []int{place, 0}, []int{place, place - 1}, []int{0, place, place - 1}, []int{0, place, place}, []int{0, place, 0}, append([]int{place}, sample.Count(many)...))
		}
	}
	return out
}

// notAsMany: numbers of steps that are neither none nor that one.
func notAsMany(many int) []int {
	var out []int
	for _, other := range []int{1, 2, many - 1, many + 1, 2 * many, 63, 64, 65, 70000} {
		if other > 0 && other != many {
			out = append(out, other)
		}
	}
	return out
}

// fine: lists of directions that have no fault, of few directions and of 64.
func fine() [][]api.Dir {
	wheel := sample.Wheel()
	return [][]api.Dir{nil, {}, wheel[:1], wheel[1:3], sample.Short()[:5], wheel[:64]}
}

// P23.1: what is no phantom is told ahead of all else, by phantom's own errors.
func TestNoPhantom(t *testing.T) {
	dirFlaws, good := sample.DirFlaws(), fine()
	wrong := notRising(3)
	for i, flaw := range sample.Flaws() {
		dirs := good[i%len(good)]
		many := len(dirs)
		for _, plan := range []api.Plan{
			{Dirs: dirs, Workers: 1},
			{},
			{Dirs: dirFlaws[i%len(dirFlaws)].Dirs, Workers: 1},
			{Dirs: dirs, Missing: wrong[i%len(wrong)], Workers: 1},
			{Dirs: dirs, Steps: make([]api.Step, many+1), Workers: 1},
			{Dirs: dirs, Workers: noWorkers()[i%len(noWorkers())]},
			{Dirs: dirs, Steps: sample.Same(api.Step{X: math.MinInt}, many), Workers: 16},
			{Dirs: dirFlaws[i%25].Dirs, Missing: wrong[0], Steps: make([]api.Step, 3), Workers: 17},
		} {
			refused(t, flaw.Phantom, plan, flaw.Want)
		}
	}
}

// P23.1: then too many directions, then the first that is none or stands twice, missing or not; ahead of places, steps and workers.
func TestNoDirs(t *testing.T) {
	for i, flaw := range sample.DirFlaws() {
		many := len(flaw.Dirs)
		for _, p := range []api.Phantom{half(), {N: 1}, sample.Phantom(64, sample.Many(16)...)} {
			for _, plan := range []api.Plan{
				{Dirs: flaw.Dirs, Workers: 1 + i%16},
				{Dirs: flaw.Dirs},
				{Dirs: flaw.Dirs, Missing: []int{1, 0}, Workers: 1},
				{Dirs: flaw.Dirs, Missing: []int{many}, Workers: 1},
				{Dirs: flaw.Dirs, Missing: sample.Count(min(many, 66)), Workers: 1},
				{Dirs: flaw.Dirs, Steps: make([]api.Step, many), Workers: 1},
				{Dirs: flaw.Dirs, Steps: make([]api.Step, many+1), Workers: 1},
				{Dirs: flaw.Dirs, Steps: sample.Same(api.Step{Y: 1}, many), Workers: 1},
				{Dirs: flaw.Dirs, Missing: []int{math.MinInt}, Steps: make([]api.Step, 7), Workers: math.MaxInt},
			} {
				refused(t, p, plan, flaw.Want)
			}
		}
	}
}

// P23.1: a direction that is none is a fault, and so is one that stands twice, also where these are missing.
func TestMissingDirsCount(t *testing.T) {
	good, none := api.Dir{P: 3, Q: 2}, api.Dir{P: 2, Q: 2}
	for _, c := range []struct {
		dirs    []api.Dir
		missing []int
		want    api.Errno
	}{
		{[]api.Dir{good, none}, []int{1}, api.ErrDir},
		{[]api.Dir{none, good}, []int{0}, api.ErrDir},
		{[]api.Dir{none}, []int{0}, api.ErrDir},
		{[]api.Dir{good, good}, []int{1}, api.ErrTwice},
		{[]api.Dir{good, good}, []int{0}, api.ErrTwice},
		{[]api.Dir{good, good}, []int{0, 1}, api.ErrTwice},
		{[]api.Dir{good, good, none}, []int{1, 2}, api.ErrTwice},
		{[]api.Dir{good, none, good}, []int{1, 2}, api.ErrDir},
		{sample.Wheel()[:65], []int{64}, api.ErrLong},
		{sample.Wheel()[:65], sample.Count(65), api.ErrLong},
	} {
		refused(t, half(), api.Plan{Dirs: c.dirs, Missing: c.missing, Workers: 2}, c.want)
	}
}

// P23.1: then missing places that don't rise, stand twice or are none; ahead of workers and of what is lost.
func TestNoPlaces(t *testing.T) {
	for _, dirs := range fine() {
		many := len(dirs)
		for i, missing := range notRising(many) {
			for _, plan := range []api.Plan{
				{Dirs: dirs, Missing: missing, Workers: 1 + i%16},
				{Dirs: dirs, Missing: missing},
				{Dirs: dirs, Missing: missing, Workers: 17},
				{Dirs: dirs, Missing: missing, Steps: make([]api.Step, many), Workers: 1},
				{Dirs: dirs, Missing: missing, Steps: make([]api.Step, many+2), Workers: 1},
				{Dirs: dirs, Missing: missing, Steps: sample.Same(api.Step{X: -1}, many), Workers: 1},
			} {
				refused(t, half(), plan, api.ErrPlan)
			}
		}
	}
	// Room for places is none.
	told(t, half(), api.Plan{Dirs: two(), Missing: []int{5, 5, 5}[:0], Workers: 1}, run(t, half(), api.Plan{Dirs: two(), Workers: 1}), api.OK)
}

// P23.1: and steps that are too few or too many, also if they are as many as directions that aren't missing.
func TestNotAsManySteps(t *testing.T) {
	d := sample.Dice(235)
	for _, dirs := range fine() {
		many := len(dirs)
		for _, other := range notAsMany(many) {
			for _, step := range []api.Step{{}, {X: -1}, {Y: math.MinInt}} {
				for _, workers := range []int{1, 16, 0, 17, math.MaxInt} {
					refused(t, half(), api.Plan{Dirs: dirs, Steps: sample.Same(step, other), Workers: workers}, api.ErrPlan)
					refused(t, half(), api.Plan{Dirs: dirs, Missing: d.Some(many), Steps: sample.Same(step, other), Workers: workers}, api.ErrPlan)
				}
			}
		}
		for place := range many {
			if many > 1 {
				refused(t, half(), api.Plan{Dirs: dirs, Missing: []int{place}, Steps: make([]api.Step, many-1), Workers: 1}, api.ErrPlan)
			}
		}
		if many > 1 { // room for the missing ones is no step
			refused(t, half(), api.Plan{Dirs: dirs, Steps: make([]api.Step, many-1, many+5), Workers: 1}, api.ErrPlan)
		}
	}
}

// P23.1: then workers that are none or too many, ahead of what is lost.
func TestNoWorkers(t *testing.T) {
	d := sample.Dice(236)
	for _, workers := range noWorkers() {
		for _, dirs := range fine() {
			many := len(dirs)
			for _, missing := range d.Missings(many) {
				for _, steps := range [][]api.Step{nil, make([]api.Step, many), sample.Same(api.Step{X: 1}, many), sample.Same(api.Step{Y: -1}, many), sample.Same(api.Step{X: math.MinInt, Y: math.MaxInt}, many)} {
					refused(t, half(), api.Plan{Dirs: dirs, Missing: missing, Steps: steps, Workers: workers}, api.ErrArg)
				}
			}
		}
	}
}

// P23.1: every number of workers from 1 to 16 is one, and every list of places that rises.
func TestNoFault(t *testing.T) {
	for workers := 1; workers <= 16; workers++ {
		for choice := range 1 << 5 {
			missing := slices.DeleteFunc(sample.Count(5), func(place int) bool { return choice>>place&1 == 0 })
			for _, steps := range [][]api.Step{nil, {}, make([]api.Step, 5)} {
				r, e := checkRun(t, half(), api.Plan{Dirs: sample.Short()[:5], Missing: missing, Steps: steps, Workers: workers})
				if e != api.OK || len(r.Left) != len(missing) || len(r.Sino.Projs) != 5-len(missing) {
					t.Fatalf("%v missing: error %d, %v", missing, e, r)
				}
			}
		}
	}
}

// P23.1: any faults together, drawn: the first of them is told.
func TestFaultsTogether(t *testing.T) {
	d := sample.Dice(237)
	flaws, dirFlaws, good, wrong := sample.Flaws(), sample.DirFlaws(), fine(), notRising(3)
	told := map[api.Errno]int{}
	for range 10000 {
		p, dirs := d.Within(1+d.Number(4)), good[d.Number(len(good)-2)]
		if d.Number(7) == 0 {
			p = flaws[d.Number(len(flaws)-1)].Phantom
		}
		if d.Number(5) == 0 {
			all := [][]sample.DirFlaw{dirFlaws[:6], dirFlaws[7:]}[d.Number(1)] // the first six are too many
			dirs = all[d.Number(len(all)-1)].Dirs
		}
		many := len(dirs)
		plan := api.Plan{Dirs: dirs, Missing: d.Some(many), Workers: 1 + d.Number(15)}
		if d.Number(3) == 0 {
			plan.Missing = wrong[d.Number(len(wrong)-1)]
		}
		switch d.Number(5) {
		case 0:
			plan.Steps = d.AnySteps(p.N, many)
		case 1:
			plan.Steps = make([]api.Step, many)
		case 2:
			plan.Steps = d.AnySteps(p.N, d.Number(many+1))
		}
		if d.Number(3) == 0 {
			plan.Workers = noWorkers()[d.Number(len(noWorkers())-1)]
		}
		_, e := checkRun(t, p, plan)
		told[e]++
	}
	for _, e := range []api.Errno{api.OK, api.ErrArg, api.ErrLong, api.ErrShape, api.ErrWorth, api.ErrDir, api.ErrTwice, api.ErrPlan, api.ErrLost} {
		if told[e] < 20 {
			t.Errorf("error %d is told %d times", e, told[e])
		}
	}
}
