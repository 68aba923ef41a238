package scan_test

import (
	"fmt"
	"slices"
	"testing"

	"penumbra/api"
	"penumbra/phantom"
	"penumbra/sample"
	"penumbra/scan"
)

// half: the chapter's phantom.
func half() api.Phantom { return sample.Phantom(2, sample.Rect(0, 0, 1, 2, 5)) }

// two: the chapter's directions.
func two() []api.Dir { return []api.Dir{{P: 1}, {P: 1, Q: 1}} }

// within: shapes of each kind in a part of the field of view, so that there is room for motion.
func within(n int, d *sample.Dice) api.Phantom {
	x, y := d.Number(n-1), d.Number(n-1)
	w, h := 1+d.Number(n-1-x), 1+d.Number(n-1-y)
	part := d.UpTo(api.MaxWorth)
	worth := func() complex128 { return complex(part(), part()) }
	r := (min(w, h) - 1) / 2
	all := []api.Shape{sample.Rect(x, y, w, h, worth()), sample.Wedge(x, y, w, h, worth()), sample.Disc(x+r, y+r, r*r, worth()), sample.Rect(x+w-1, y, 1, h, worth())}
	return sample.Phantom(n, all[d.Number(3):]...)
}

// beyond: shapes that reach out of the field of view, in which they have one cell, at a corner; what is outside doesn't move in.
func beyond(n int, d *sample.Dice) api.Phantom {
	last := n - 1
	all := []api.Shape{sample.Rect(-3, -2, 4, 3, 5-2i), sample.Rect(last, -7, 9, 8, 65536i), sample.Rect(last, last, 1024, 1024, -3), sample.Rect(-1023, last, 1024, 1, 1+1i), sample.Disc(-2, 0, 4, 7), sample.Wedge(-4, -5, 5, 6, -9i), sample.Wedge(last, last, 40, 30, 2)}
	return sample.Phantom(n, all[d.Number(len(all)-1)])
}

// thing: a phantom of any kind, half of them such that may move.
func thing(n int, d *sample.Dice) api.Phantom {
	switch d.Number(7) {
	case 0, 1, 2, 3:
		return within(n, d)
	case 4:
		return beyond(n, d)
	case 5:
		all := append(sample.Waste(n), sample.Bare(n), api.Phantom{N: n})
		return all[d.Number(len(all)-1)]
	}
	all := sample.AllPhantoms(n)
	return all[d.Number(len(all)-1)]
}

// lists: of directions: none (both ways of saying it), one, some, just enough, more than that, and now and then 64.
func lists(n int, d *sample.Dice) [][]api.Dir {
	enough := d.Enough(n)
	out := [][]api.Dir{nil, {}, d.Picked(sample.Dirs(), 1), d.Picked(sample.Short(), 3), d.Picked(sample.Wheel(), 1+d.Number(6)), enough, slices.Concat(enough, d.Picked(without(sample.Wheel(), enough), 2))}
	if n%13 == 1 {
		out = append(out, d.Picked(sample.Wheel(), 64), d.Picked(sample.Wheel(), 63))
	}
	return out
}

// without: those of the first list that aren't in the second.
func without(all, some []api.Dir) []api.Dir {
	return slices.DeleteFunc(slices.Clone(all), func(d api.Dir) bool { return slices.Contains(some, d) })
}

// some: each of so many places, or not.
func some(many int, d *sample.Dice) []int {
	var out []int
	for place := range many {
		if d.Number(1) == 0 {
			out = append(out, place)
		}
	}
	return out
}

// count: 0, 1, 2, ..
func count(many int) []int {
	var out []int
	for place := range many {
		out = append(out, place)
	}
	return out
}

// missings: which places may be missing: none (both ways of saying it), the first, the last, one, some, all but one, all.
func missings(many int, d *sample.Dice) [][]int {
	out := [][]int{nil, {}}
	if many == 0 {
		return out
	}
	at := d.Number(many - 1)
	return append(out, []int{0}, []int{many - 1}, []int{at}, some(many, d), some(many, d), slices.Delete(count(many), at, at+1), count(many))
}

// ways: of moving by so many directions: none (both ways of saying it), staying, any steps that lose nothing, such with one that does, and any at all.
func ways(p api.Phantom, many int, d *sample.Dice) [][]api.Step {
	raster, _ := phantom.Raster(p)
	walk := d.Walk(raster, many)
	return [][]api.Step{nil, {}, sample.Same(api.Step{}, many), walk, d.Walk(raster, many), d.Astray(raster, walk), d.AnySteps(p.N, many)}
}

// hushed: the steps, but that those at missing places are as long as can be.
func hushed(steps []api.Step, missing []int, d *sample.Dice) []api.Step {
	if len(steps) == 0 {
		return steps
	}
	out := slices.Clone(steps)
	for _, place := range missing {
		out[place] = d.AnySteps(64, 1)[0]
	}
	return out
}

// noWorkers: numbers that no workers have.
func noWorkers() []int { return append(sample.Ends(), -16, -2, -1, 0, 17, 18, 64) }

// about: names a call for a failure.
func about(p api.Phantom, plan api.Plan) string {
	few := func(many int) int { return min(many, 6) }
	return fmt.Sprintf("side %d, %d shapes %v, %d along %v, %d missing %v, %d steps %v, %d workers", p.N, len(p.Shapes), p.Shapes[:few(len(p.Shapes))], len(plan.Dirs), plan.Dirs[:few(len(plan.Dirs))], len(plan.Missing), plan.Missing[:few(len(plan.Missing))], len(plan.Steps), plan.Steps[:few(len(plan.Steps))], plan.Workers)
}

// sameReport: bit by bit.
func sameReport(a, b api.Report) bool {
	return sample.SameSino(a.Sino, b.Sino) && slices.Equal(a.Left, b.Left) && a.Enough == b.Enough && a.Open == b.Open && sample.SameField(a.Grid, b.Grid)
}

// copied: a report in memory of its own.
func copied(r api.Report) api.Report {
	r.Sino, r.Left, r.Grid.Cells = sample.CopySino(r.Sino), slices.Clone(r.Left), slices.Clone(r.Grid.Cells)
	return r
}

// run: what must be told.
func run(t *testing.T, p api.Phantom, plan api.Plan) api.Report {
	t.Helper()
	r, e := scan.Run(p, plan)
	if e != api.OK {
		t.Fatalf("%s: error %d", about(p, plan), e)
	}
	return r
}

// told: is that what Run tells?
func told(t *testing.T, p api.Phantom, plan api.Plan, want api.Report, wantErr api.Errno) {
	t.Helper()
	if got, e := scan.Run(p, plan); e != wantErr || !sameReport(got, want) {
		t.Fatalf("%s: error %d, not %d, or another report: %v, not %v", about(p, plan), e, wantErr, got, want)
	}
}

// checkRun: do Run and Check tell what the chapter's words do? It answers Run's.
func checkRun(t *testing.T, p api.Phantom, plan api.Plan) (api.Report, api.Errno) {
	t.Helper()
	want, e := ruled(p, plan)
	told(t, p, plan, want, e)
	if got, want := scan.Check(p, plan), planFault(p, plan); got != want {
		t.Fatalf("%s: Check tells error %d, not %d", about(p, plan), got, want)
	}
	return want, e
}

// refused: by Check and by Run with that error, nothing beside it.
func refused(t *testing.T, p api.Phantom, plan api.Plan, want api.Errno) {
	t.Helper()
	told(t, p, plan, api.Report{}, want)
	if e := scan.Check(p, plan); e != want {
		t.Fatalf("%s: Check tells error %d, not %d", about(p, plan), e, want)
	}
}

// lost: Run tells ErrLost and nothing beside it, Check finds no fault.
func lost(t *testing.T, p api.Phantom, plan api.Plan) {
	t.Helper()
	told(t, p, plan, api.Report{}, api.ErrLost)
	if e := scan.Check(p, plan); e != api.OK {
		t.Fatalf("%s: Check tells error %d", about(p, plan), e)
	}
}

// checkLeast: is that what Least tells?
func checkLeast(t *testing.T, p api.Phantom, dirs []api.Dir, want int, wantErr api.Errno) {
	t.Helper()
	if many, e := scan.Least(p, dirs); many != want || e != wantErr {
		t.Fatalf("Least, %s: %d, error %d, not %d, error %d", about(p, api.Plan{Dirs: dirs}), many, e, want, wantErr)
	}
}
