package scan_test

import (
	"math"
	"runtime"
	"slices"
	"testing"
	"time"

	"penumbra/api"
	"penumbra/phantom"
	"penumbra/sample"
	"penumbra/scan"
)

// P23.1: the chapter's examples.
func TestExamples(t *testing.T) {
	p, e := phantom.Parse("phantom 2\nrect 0 0 1 2 5 0\n")
	if e != api.OK || !sample.SamePhantom(p, half()) {
		t.Fatalf("%v, error %d", p, e)
	}
	rows, slanted := sample.Proj(1, 0, 5, 5), sample.Proj(1, 1, 5, 5, 0)
	whole := api.Report{Sino: api.Sino{N: 2, Projs: []api.Proj{rows, slanted}}, Enough: true, Grid: api.Grid{N: 2, Cells: []complex128{5, 0, 5, 0}}}
	told(t, p, api.Plan{Dirs: two(), Workers: 1}, whole, api.OK)
	part := api.Report{Sino: api.Sino{N: 2, Projs: []api.Proj{rows}}, Left: []api.Dir{{P: 1, Q: 1}}, Open: 4}
	told(t, p, api.Plan{Dirs: two(), Missing: []int{1}, Workers: 1}, part, api.OK)
	refused(t, p, api.Plan{Dirs: two(), Missing: []int{1, 0}, Workers: 1}, api.ErrPlan)
	refused(t, p, api.Plan{Dirs: two(), Missing: []int{2}, Workers: 1}, api.ErrPlan)
	checkLeast(t, p, two(), 2, api.OK)
}

// P23.1: reports that are written out: in the plan's order, not by angles, with several missing, all of them, or no directions at all.
func TestWrittenOut(t *testing.T) {
	dirs := []api.Dir{{P: 1, Q: 1}, {P: 1}, {Q: 1}, {P: -1, Q: 1}}
	right, rows, columns, left := sample.Proj(1, 1, 5, 5, 0), sample.Proj(1, 0, 5, 5), sample.Proj(0, 1, 10, 0), sample.Proj(-1, 1, 5, 5, 0)
	of := func(open int, left []api.Dir, projs ...api.Proj) api.Report {
		out := api.Report{Sino: api.Sino{N: 2, Projs: projs}, Left: left, Open: open, Enough: open == 0}
		if open == 0 {
			out.Grid = api.Grid{N: 2, Cells: []complex128{5, 0, 5, 0}}
		}
		return out
	}
	for _, c := range []struct {
		missing []int
		want    api.Report
	}{
		{nil, of(0, nil, right, rows, columns, left)},
		{[]int{1}, of(0, dirs[1:2], right, columns, left)},
		{[]int{0, 3}, of(4, []api.Dir{dirs[0], dirs[3]}, rows, columns)},
		{[]int{1, 2}, of(0, dirs[1:3], right, left)},
		{[]int{1, 2, 3}, of(2, dirs[1:], right)},
		{[]int{0, 2, 3}, of(4, []api.Dir{dirs[0], dirs[2], dirs[3]}, rows)},
		{[]int{0, 1, 2, 3}, of(4, dirs)},
	} {
		told(t, half(), api.Plan{Dirs: dirs, Missing: c.missing, Workers: 3}, c.want, api.OK)
		for _, step := range []api.Step{{}, {X: 1}} {
			told(t, half(), api.Plan{Dirs: dirs, Missing: c.missing, Steps: sample.Same(step, 4), Workers: 5}, c.want, api.OK)
		}
	}
	for _, n := range sample.Sides() {
		for _, dirs := range [][]api.Dir{nil, {}} {
			want := api.Report{Sino: api.Sino{N: n}, Open: n * n}
			told(t, sample.Phantom(n, sample.Many(16)...), api.Plan{Dirs: dirs, Workers: 16}, want, api.OK)
			told(t, api.Phantom{N: n}, api.Plan{Dirs: dirs, Missing: []int{}, Steps: []api.Step{}, Workers: 1}, want, api.OK)
		}
	}
	// One cell is known by any direction, and may not move.
	one := sample.Phantom(1, sample.Disc(0, 0, 0, 3-4i))
	for _, d := range sample.Dirs() {
		want := api.Report{Sino: api.Sino{N: 1, Projs: []api.Proj{sample.Proj(d.P, d.Q, 3-4i)}}, Enough: true, Grid: sample.One(3 - 4i)}
		told(t, one, api.Plan{Dirs: []api.Dir{d}, Workers: 2}, want, api.OK)
		told(t, one, api.Plan{Dirs: []api.Dir{d}, Steps: []api.Step{{}}, Workers: 2}, want, api.OK)
		lost(t, one, api.Plan{Dirs: []api.Dir{d}, Steps: []api.Step{{Y: 1}}, Workers: 2})
	}
}

// P23.1: at every side, phantoms of all kinds, no directions, one, some, 64, with none, some and all missing, without steps and with steps of all kinds, and each number of workers in turn.
func TestRun(t *testing.T) {
	d := sample.Dice(231)
	count, runs := map[api.Errno]int{}, 0
	solved, open, moved := 0, 0, 0
	for n := 1; n <= 64; n++ {
		for _, dirs := range d.Fans(n) {
			for _, missing := range d.Missings(len(dirs)) {
				p := d.Thing(n)
				all := ways(p, len(dirs), &d)
				for k, steps := range all {
					if n > 12 && d.Number(3+n/16) != 0 {
						continue
					}
					runs++
					plan := api.Plan{Dirs: dirs, Missing: missing, Steps: steps, Workers: 1 + runs%16}
					if k%2 == 0 {
						plan.Steps = hushed(steps, missing, &d)
					}
					r, e := checkRun(t, p, plan)
					count[e]++
					switch {
					case e != api.OK:
					case r.Open > 0:
						open++
					case len(steps) > 0 && slices.ContainsFunc(steps, func(s api.Step) bool { return s != api.Step{} }):
						moved++
					default:
						solved++
					}
				}
			}
		}
	}
	if count[api.ErrLost] < 500 || min(solved, open, moved) < 500 {
		t.Errorf("the samples are too much alike: %v, %d solved, %d open, %d solved though they moved", count, solved, open, moved)
	}
}

// P23.1: phantoms of every kind there is.
func TestRunOfAllPhantoms(t *testing.T) {
	d := sample.Dice(232)
	for _, n := range []int{1, 2, 3, 7, 16} {
		for i, p := range sample.AllPhantoms(n) {
			dirs := d.Fans(n)[2+i%5]
			for _, steps := range ways(p, len(dirs), &d) {
				checkRun(t, p, api.Plan{Dirs: dirs, Steps: steps, Workers: 1 + i%16})
				checkRun(t, p, api.Plan{Dirs: dirs, Missing: d.Some(len(dirs)), Steps: steps, Workers: 1 + i%16})
			}
		}
	}
}

// P23.1: the answer is the same whatever the number of workers is, also with more of them than directions that aren't missing, and where something is lost.
func TestWorkersDoNotShow(t *testing.T) {
	d := sample.Dice(233)
	count := map[api.Errno]int{}
	for _, n := range []int{1, 2, 5, 13, 31, 64} {
		many := []int{0, 1, 2, 3, 7, 15, 16, 17, 31, 64}
		if n > 16 {
			many = []int{1, 5, 17}
		}
		for _, many := range many {
			dirs := d.Picked(sample.Wheel(), many)
			for _, missing := range d.Missings(many) {
				p := d.Thing(n)
				all := ways(p, many, &d)
				steps := all[d.Number(len(all)-1)]
				plan := api.Plan{Dirs: dirs, Missing: missing, Steps: steps, Workers: 1}
				want, e := ruled(p, plan)
				count[e]++
				for workers := 1; workers <= 16; workers++ {
					plan.Workers = workers
					told(t, p, plan, want, e)
				}
			}
		}
	}
	if count[api.OK] < 100 || count[api.ErrLost] < 10 {
		t.Errorf("the samples are too much alike: %v", count)
	}
}

// P23.1: the same answer bit by bit, however the workers come to run.
func TestTheSameEachTime(t *testing.T) {
	d := sample.Dice(234)
	for _, n := range []int{1, 4, 9} {
		p, dirs := d.Within(n), d.Picked(sample.Wheel(), 40)
		raster, _ := phantom.Raster(p)
		for _, steps := range [][]api.Step{nil, d.Walk(raster, 40), d.Astray(raster, d.Walk(raster, 40))} {
			plan := api.Plan{Dirs: dirs, Missing: d.Some(40), Steps: steps}
			plan.Workers = 1
			want, e := ruled(p, plan)
			for range 20 {
				for _, workers := range []int{1, 2, 3, 7, 16} {
					plan.Workers = workers
					told(t, p, plan, want, e)
				}
			}
		}
	}
}

// P1: no worker is left over, not where something was lost either.
func TestWorkersEnd(t *testing.T) {
	before := runtime.NumGoroutine()
	dirs := sample.Wheel()[:9]
	for range 50 {
		scan.Run(half(), api.Plan{Dirs: dirs, Workers: 16})
		scan.Run(half(), api.Plan{Dirs: dirs, Steps: sample.Same(api.Step{Y: 1}, 9), Workers: 16})
	}
	for waited := 0; runtime.NumGoroutine() > before; waited++ { // one that has told its end may still be leaving
		if waited > 10000 {
			t.Fatalf("%d are left over", runtime.NumGoroutine()-before)
		}
		time.Sleep(time.Millisecond)
	}
}

// P23.1: what is lost is a cell of the Raster: not what lies outside of it, nor what cancels out in it, but also what cancels out along the direction.
func TestLost(t *testing.T) {
	along := func(step api.Step) api.Plan {
		return api.Plan{Dirs: []api.Dir{{P: 1}}, Steps: []api.Step{step}, Workers: 1}
	}
	outside := sample.Phantom(4, sample.Rect(-3, 1, 4, 1, 7)) // the cell (0, 1) alone
	for _, step := range []api.Step{{}, {X: 1}, {X: 3}, {Y: -1}, {Y: 2}, {X: 3, Y: 2}} {
		checkRun(t, outside, along(step))
		run(t, outside, along(step))
	}
	for _, step := range []api.Step{{X: -1}, {X: 4}, {Y: -2}, {Y: 3}, {X: 1, Y: 3}, {X: math.MinInt}, {Y: math.MaxInt}} {
		lost(t, outside, along(step))
	}
	nothing := append(sample.Waste(5)[:3], sample.Bare(5), api.Phantom{N: 5})
	for _, p := range nothing {
		for _, x := range sample.Reaches(5) {
			for _, y := range sample.Reaches(5) {
				told(t, p, along(api.Step{X: x, Y: y}), api.Report{Sino: api.Sino{N: 5, Projs: []api.Proj{sample.Proj(1, 0, make([]complex128, 5)...)}}, Open: 25}, api.OK)
			}
		}
	}
	unseen := sample.Phantom(2, sample.Rect(0, 0, 1, 1, 5), sample.Rect(1, 0, 1, 1, -5)) // 5, -5 above 0, 0
	run(t, unseen, along(api.Step{Y: 1}))
	lost(t, unseen, along(api.Step{Y: -1}))
	lost(t, unseen, along(api.Step{X: 1}))
}

// P23.1: one step too far, wherever it stands, one way or another; at a direction that is missing it is no error.
func TestOneStepTooFar(t *testing.T) {
	p, dirs := sample.Phantom(5, sample.Disc(2, 2, 1, 4-9i)), sample.Wheel()[:64]
	still := run(t, p, api.Plan{Dirs: dirs, Workers: 4})
	for place := range dirs {
		for _, step := range []api.Step{{X: 2}, {X: -2}, {Y: 2}, {Y: -2}, {X: math.MaxInt, Y: math.MinInt}} {
			plan := api.Plan{Dirs: dirs, Steps: sample.Same(api.Step{X: 1, Y: -1}, 64), Workers: 1 + place%16}
			told(t, p, plan, still, api.OK)
			plan.Steps[place] = step
			lost(t, p, plan)
			plan.Missing = []int{place}
			want, e := ruled(p, plan)
			if e != api.OK {
				t.Fatalf("place %d: error %d", place, e)
			}
			told(t, p, plan, want, api.OK)
			plan.Missing = []int{(place + 1) % 64}
			lost(t, p, plan)
		}
	}
	// All of them are missing, so none is.
	plan := api.Plan{Dirs: dirs, Missing: sample.Count(64), Steps: sample.Same(api.Step{X: math.MinInt}, 64), Workers: 16}
	told(t, p, plan, api.Report{Sino: api.Sino{N: 5}, Left: dirs, Open: 25}, api.OK)
}
