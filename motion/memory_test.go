package motion_test

import (
	"slices"
	"testing"

	"penumbra/api"
	"penumbra/motion"
	"penumbra/sample"
)

// A job is what Take is handed, and what is seen then or not.
type job struct {
	g     api.Grid
	dirs  []api.Dir
	steps []api.Step
}

// some: of each kind, with faults and without, small enough to be gone through many times.
func some() []job {
	d := sample.Dice(222)
	var out []job
	for _, n := range []int{1, 2, 5} {
		for i, dirs := range sample.DirLists() {
			g := grids(n, &d)[i%7]
			way := d.Walk(g, len(dirs))
			out = append(out, job{g, dirs, way}, job{g, dirs, sample.Same(api.Step{}, len(dirs))}, job{g, dirs, d.Astray(g, way)}, job{g, dirs, d.AnySteps(n, len(dirs))}, job{g, dirs, append(way, api.Step{X: 7})})
		}
		for i, flaw := range sample.DirFlaws() {
			if i%40 == 0 {
				out = append(out, job{sample.Numbered(n), flaw.Dirs, make([]api.Step, len(flaw.Dirs))})
			}
		}
	}
	for i, g := range sample.NoGrids() {
		if i%20 == 0 {
			out = append(out, job{g, sample.Dirs(), make([]api.Step, 20)})
		}
	}
	return out
}

// held: does the call leave directions and steps as they are, with the room behind them?
func held(dirs []api.Dir, steps []api.Step, call func(dirs []api.Dir, steps []api.Step)) bool {
	dirs, allDirs := sample.Roomy(dirs, api.Dir{P: 7, Q: -7}, api.Dir{P: 1}, api.Dir{})
	steps, allSteps := sample.Roomy(steps, api.Step{X: 5}, api.Step{Y: -9}, api.Step{})
	dirsBefore, stepsBefore := slices.Clone(allDirs), slices.Clone(allSteps)
	call(dirs, steps)
	return slices.Equal(allDirs, dirsBefore) && slices.Equal(allSteps, stepsBefore)
}

// P20.4: what Take is handed is not changed: neither cells nor directions nor steps, nor the room behind any of these, whatever is answered.
func TestTakeChangesNothing(t *testing.T) {
	count := map[api.Errno]int{}
	for _, j := range some() {
		well := held(j.dirs, j.steps, func(dirs []api.Dir, steps []api.Step) {
			if sample.Changed(j.g.Cells, func(cells []complex128) {
				_, e := motion.Take(api.Grid{N: j.g.N, Cells: cells}, dirs, steps)
				count[e]++
			}) {
				t.Fatalf("%s: the grid is changed", about(j.g.N, j.dirs, j.steps))
			}
		})
		if !well {
			t.Fatalf("%s: directions or steps are changed", about(j.g.N, j.dirs, j.steps))
		}
	}
	for _, e := range []api.Errno{api.OK, api.ErrGrid, api.ErrLong, api.ErrDir, api.ErrTwice, api.ErrArg, api.ErrLost} {
		if count[e] == 0 {
			t.Errorf("none of them is told error %d", e)
		}
	}
}

// P20.4: nor is what Undo is handed, projections and their bins with the room behind them, and steps.
func TestUndoChangesNothing(t *testing.T) {
	d := sample.Dice(223)
	count := map[api.Errno]int{}
	for _, s := range append(sample.FewSinos(), sample.FewFlaws()...) {
		many := len(s.Projs)
		for _, steps := range [][]api.Step{sample.Same(api.Step{}, many), sample.Same(api.Step{X: 1, Y: -1}, many), d.AnySteps(3, many), make([]api.Step, many+1)} {
			well := held(nil, steps, func(_ []api.Dir, steps []api.Step) {
				if sample.ChangedSino(s, func(same api.Sino) {
					_, e := motion.Undo(same, steps)
					count[e]++
				}) {
					t.Fatalf("%s: the projections are changed", about(s.N, dirsOf(s), steps))
				}
			})
			if !well {
				t.Fatalf("%s: the steps are changed", about(s.N, dirsOf(s), steps))
			}
		}
	}
	for _, e := range []api.Errno{api.OK, api.ErrArg, api.ErrLong, api.ErrDir, api.ErrTwice, api.ErrBins, api.ErrLost} {
		if count[e] == 0 {
			t.Errorf("none of them is told error %d", e)
		}
	}
}

// P20.4: nor are bins that Slide and Drift are handed.
func TestBinsAreNotChanged(t *testing.T) {
	d := sample.Dice(224)
	for _, n := range []int{1, 2, 5} {
		for _, along := range append(sample.Short(), api.Dir{}, api.Dir{P: 4, Q: 2}) {
			many := max(sample.BinCount(n, along), 1)
			for _, list := range bins(many, &d) {
				changed := sample.Changed(list, func(list []complex128) {
					p := api.Proj{Dir: along, Bins: list}
					other := api.Proj{Dir: along, Bins: slices.Clone(list)}
					for _, by := range shoves(many) {
						there, _ := motion.Slide(n, p, by)
						motion.Slide(n+1, p, by)
						motion.Drift(p, there)
						motion.Drift(there, p)
					}
					motion.Drift(p, p)
					motion.Drift(p, other)
					motion.Drift(other, p)
				})
				if changed {
					t.Fatalf("side %d, along %v: changed", n, along)
				}
			}
		}
	}
}

// P20.4: what Take tells shares no memory with the grid, with another answer, nor one list of it with another; also where nothing moves.
func TestSeenIsNew(t *testing.T) {
	for _, j := range some() {
		if _, e := motion.Take(j.g, j.dirs, j.steps); e != api.OK {
			continue
		}
		name := about(j.g.N, j.dirs, j.steps)
		g := api.Grid{N: j.g.N, Cells: slices.Clone(j.g.Cells)}
		dirs, steps := slices.Clone(j.dirs), slices.Clone(j.steps)
		if shares := sample.SharedSino(func() api.Sino { return take(t, g, dirs, steps) }); shares != "" {
			t.Fatalf("%s: shared with %s", name, shares)
		}
		if !slices.Equal(g.Cells, j.g.Cells) || !slices.Equal(dirs, j.dirs) {
			t.Fatalf("%s: shared with what was handed in", name)
		}
		got := take(t, g, dirs, steps)
		want := sample.CopySino(got)
		for i := range g.Cells {
			g.Cells[i] = 99
		}
		clear(dirs)
		clear(steps)
		if !sample.SameSino(got, want) {
			t.Fatalf("%s: what was handed in shows in the answer later", name)
		}
	}
}

// P20.4: likewise of what Undo tells, also where the steps are (0, 0).
func TestUndoneIsNew(t *testing.T) {
	d := sample.Dice(225)
	told := 0
	for _, s := range sample.FewSinos() {
		many := len(s.Projs)
		for _, steps := range [][]api.Step{sample.Same(api.Step{}, many), sample.Same(api.Step{X: 1, Y: -1}, many), d.AnySteps(3, many)} {
			if _, e := motion.Undo(s, steps); e != api.OK {
				continue
			}
			told++
			shares := sample.SharedSinos(s, func(same api.Sino) api.Sino {
				got, _ := motion.Undo(same, steps)
				return got
			})
			if shares != "" {
				t.Fatalf("%s: shared with %s", about(s.N, dirsOf(s), steps), shares)
			}
		}
	}
	if told < 50 {
		t.Errorf("only %d are told", told)
	}
}

// P20.4: and of what Slide tells, also by 0.
func TestSlidIsNew(t *testing.T) {
	d := sample.Dice(226)
	for _, n := range []int{1, 2, 5} {
		for _, along := range sample.Short() {
			many := sample.BinCount(n, along)
			for _, list := range bins(many, &d) {
				for _, by := range []int{0, 1, -1, many, -many - 7} {
					if _, e := motion.Slide(n, api.Proj{Dir: along, Bins: list}, by); e != api.OK {
						continue
					}
					shares := sample.Shared(list, func(list []complex128) []complex128 {
						p, _ := motion.Slide(n, api.Proj{Dir: along, Bins: list}, by)
						return p.Bins
					})
					if shares != "" {
						t.Fatalf("side %d, along %v, by %d: shared with %s", n, along, by, shares)
					}
				}
			}
		}
	}
}

// P1, rule 5: calls at the same time do not show in each other's answers.
func TestAtTheSameTime(t *testing.T) {
	d := sample.Dice(227)
	g, dirs := boxed(13, &d, d.Whole), sample.Dirs()
	steps := d.Walk(g, len(dirs))
	seen := take(t, g, dirs, steps)
	every := func(s api.Sino) []complex128 {
		var out []complex128
		for _, p := range s.Projs {
			out = append(out, p.Bins...)
		}
		return out
	}
	for name, call := range map[string]func() []complex128{
		"Take":  func() []complex128 { s, _ := motion.Take(g, dirs, steps); return every(s) },
		"Undo":  func() []complex128 { s, _ := motion.Undo(seen, steps); return every(s) },
		"Slide": func() []complex128 { p, _ := motion.Slide(13, seen.Projs[4], 0); return p.Bins },
		"Drift": func() []complex128 {
			k, _ := motion.Drift(seen.Projs[0], seen.Projs[0])
			return []complex128{complex(float64(k), 0)}
		},
	} {
		if !sample.Alone(call) {
			t.Errorf("%s answers otherwise beside itself", name)
		}
	}
}
