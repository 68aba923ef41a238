package scan_test

import (
	"fmt"
	"slices"
	"testing"

	"penumbra/api"
	"penumbra/phantom"
	"penumbra/sample"
	"penumbra/scan"
)

// half: the chapter's phantom.
func half() api.Phantom { return sample.Phantom(2, sample.Rect(0, 0, 1, 2, 5)) }

// two: the chapter's directions.
func two() []api.Dir { return []api.Dir{{P: 1}, {P: 1, Q: 1}} }

// ways: of moving by so many directions: none (both ways of saying it), staying, any steps that lose nothing, such with one that does, and any at all.
func ways(p api.Phantom, many int, d *sample.Dice) [][]api.Step {
	raster, _ := phantom.Raster(p)
	walk := d.Walk(raster, many)
	return [][]api.Step{nil, {}, sample.Same(api.Step{}, many), walk, d.Walk(raster, many), d.Astray(raster, walk), d.AnySteps(p.N, many)}
}

// hushed: the steps, but that those at missing places are as long as can be.
func hushed(steps []api.Step, missing []int, d *sample.Dice) []api.Step {
	if len(steps) == 0 {
		return steps
	}
	out := slices.Clone(steps)
	for _, place := range missing {
		out[place] = d.AnySteps(64, 1)[0]
	}
	return out
}

// noWorkers: numbers that no workers have.
func noWorkers() []int { return append(sample.Ends(), -16, -2, -1, 0, 17, 18, 64) }

// about: names a call for a failure.
func about(p api.Phantom, plan api.Plan) string {
	few := func(many int) int { return min(many, 6) }
	return fmt.Sprintf("side %d, %d shapes %v, %d along %v, %d missing %v, %d steps %v, %d workers", p.N, len(p.Shapes), p.Shapes[:few(len(p.Shapes))], len(plan.Dirs), plan.Dirs[:few(len(plan.Dirs))], len(plan.Missing), plan.Missing[:few(len(plan.Missing))], len(plan.Steps), plan.Steps[:few(len(plan.Steps))], plan.Workers)
}

// sameReport: bit by bit.
func sameReport(a, b api.Report) bool {
	return sample.SameSino(a.Sino, b.Sino) && slices.Equal(a.Left, b.Left) && a.Enough == b.Enough && a.Open == b.Open && sample.SameField(a.Grid, b.Grid)
}

// copied: a report in memory of its own.
func copied(r api.Report) api.Report {
	r.Sino, r.Left, r.Grid.Cells = sample.CopySino(r.Sino), slices.Clone(r.Left), slices.Clone(r.Grid.Cells)
	return r
}

// run: what must be told.
func run(t *testing.T, p api.Phantom, plan api.Plan) api.Report {
	t.Helper()
	r, e := scan.Run(p, plan)
	if e != api.OK {
		t.Fatalf("%s: error %d", about(p, plan), e)
	}
	return r
}

// told: is that what Run tells?
func told(t *testing.T, p api.Phantom, plan api.Plan, want api.Report, wantErr api.Errno) {
	t.Helper()
	if got, e := scan.Run(p, plan); e != wantErr || !sameReport(got, want) {
		t.Fatalf("%s: error %d, not %d, or another report: %v, not %v", about(p, plan), e, wantErr, got, want)
	}
}

// checkRun: do Run and Check tell what the chapter's words do? It answers Run's.
func checkRun(t *testing.T, p api.Phantom, plan api.Plan) (api.Report, api.Errno) {
	t.Helper()
	want, e := ruled(p, plan)
	told(t, p, plan, want, e)
	if got, want := scan.Check(p, plan), planFault(p, plan); got != want {
		t.Fatalf("%s: Check tells error %d, not %d", about(p, plan), got, want)
	}
	return want, e
}

// refused: by Check and by Run with that error, nothing beside it.
func refused(t *testing.T, p api.Phantom, plan api.Plan, want api.Errno) {
	t.Helper()
	told(t, p, plan, api.Report{}, want)
	if e := scan.Check(p, plan); e != want {
		t.Fatalf("%s: Check tells error %d, not %d", about(p, plan), e, want)
	}
}

// lost: Run tells ErrLost and nothing beside it, Check finds no fault.
func lost(t *testing.T, p api.Phantom, plan api.Plan) {
	t.Helper()
	told(t, p, plan, api.Report{}, api.ErrLost)
	if e := scan.Check(p, plan); e != api.OK {
		t.Fatalf("%s: Check tells error %d", about(p, plan), e)
	}
}

// checkLeast: is that what Least tells?
func checkLeast(t *testing.T, p api.Phantom, dirs []api.Dir, want int, wantErr api.Errno) {
	t.Helper()
	if many, e := scan.Least(p, dirs); many != want || e != wantErr {
		t.Fatalf("Least, %s: %d, error %d, not %d, error %d", about(p, api.Plan{Dirs: dirs}), many, e, want, wantErr)
	}
}
