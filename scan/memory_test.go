package scan_test

import (
	"slices"
	"testing"

	"penumbra/api"
	"penumbra/phantom"
	"penumbra/sample"
	"penumbra/scan"
)

// A job is what Run is handed.
type job struct {
	p    api.Phantom
	plan api.Plan
}

// jobs: of each kind, with faults and without, small enough to be gone through many times.
func jobs() []job {
	d := sample.Dice(245)
	var out []job
	for _, n := range []int{1, 2, 5, 16} {
		for _, dirs := range d.Fans(n) {
			for _, missing := range d.Missings(len(dirs)) {
				p := d.Thing(n)
				for _, steps := range ways(p, len(dirs), &d) {
					out = append(out, job{p, api.Plan{Dirs: dirs, Missing: missing, Steps: steps, Workers: 1 + d.Number(15)}})
				}
			}
		}
	}
	for i, flaw := range sample.Flaws() {
		if i%50 == 0 && len(flaw.Phantom.Shapes) < 40 {
			out = append(out, job{flaw.Phantom, api.Plan{Dirs: two(), Workers: 1}})
		}
	}
	for i, flaw := range sample.DirFlaws() {
		if i%30 == 0 && len(flaw.Dirs) < 70 {
			out = append(out, job{half(), api.Plan{Dirs: flaw.Dirs, Workers: 1}})
		}
	}
	for _, missing := range [][]int{{1, 0}, {0, 0}, {2}, {-1}} {
		out = append(out, job{half(), api.Plan{Dirs: two(), Missing: missing, Workers: 1}})
	}
	return append(out, job{half(), api.Plan{Dirs: two(), Steps: make([]api.Step, 3), Workers: 1}}, job{half(), api.Plan{Dirs: two(), Workers: 17}})
}

// roomy: the job with room behind its lists that holds something, and the whole of that memory.
func roomy(j job) (same, all job) {
	same, all = j, j
	same.p, all.p = sample.SparePhantom(j.p)
	same.plan.Dirs, all.plan.Dirs = sample.Roomy(j.plan.Dirs, api.Dir{P: 7, Q: -7}, api.Dir{P: 1}, api.Dir{})
	same.plan.Missing, all.plan.Missing = sample.Roomy(j.plan.Missing, 9, 0, -5)
	same.plan.Steps, all.plan.Steps = sample.Roomy(j.plan.Steps, api.Step{X: 5}, api.Step{Y: -9}, api.Step{})
	return same, all
}

// owned: the job in memory of its own.
func owned(j job) job {
	j.p = sample.CopyPhantom(j.p)
	j.plan.Dirs, j.plan.Missing, j.plan.Steps = slices.Clone(j.plan.Dirs), slices.Clone(j.plan.Missing), slices.Clone(j.plan.Steps)
	return j
}

// sameJob: in all its lists.
func sameJob(a, b job) bool {
	return sample.SamePhantom(a.p, b.p) && slices.Equal(a.plan.Dirs, b.plan.Dirs) && slices.Equal(a.plan.Missing, b.plan.Missing) && slices.Equal(a.plan.Steps, b.plan.Steps)
}

// wipe: what was handed in is written over.
func wipe(j job) {
	sample.WipePhantom(j.p)
	for i := range j.plan.Dirs {
		j.plan.Dirs[i] = api.Dir{P: 99, Q: 98}
	}
	for i := range j.plan.Missing {
		j.plan.Missing[i] = 97
	}
	for i := range j.plan.Steps {
		j.plan.Steps[i] = api.Step{X: 96, Y: 95}
	}
}

// P23.4: what is handed in is not changed: neither shapes nor directions, places or steps, nor the room behind any of these, whatever is answered.
func TestNothingIsChanged(t *testing.T) {
	count := map[api.Errno]int{}
	for _, j := range jobs() {
		same, all := roomy(j)
		before := owned(all)
		_, e := scan.Run(same.p, same.plan)
		count[e]++
		scan.Check(same.p, same.plan)
		scan.Least(same.p, same.plan.Dirs)
		if !sameJob(all, before) {
			t.Fatalf("%s: changed", about(j.p, j.plan))
		}
	}
	for _, e := range []api.Errno{api.OK, api.ErrArg, api.ErrLong, api.ErrShape, api.ErrWorth, api.ErrDir, api.ErrTwice, api.ErrPlan, api.ErrLost} {
		if count[e] == 0 {
			t.Errorf("none of them is told error %d", e)
		}
	}
}

// A piece is one list of a report.
type piece struct {
	name string
	wipe func() // writes over it, with the room behind it
	same func(want api.Report) bool
}

func wiped[T any](list []T, v T) func() {
	return func() {
		room := list[:cap(list)]
		for i := range room {
			room[i] = v
		}
	}
}

// pieces: all lists of a report; each keeps its own hold of it, since the list of projections is wiped too.
func pieces(r api.Report) []piece {
	out := []piece{
		{"Left", wiped(r.Left, api.Dir{P: 99}), func(want api.Report) bool { return slices.Equal(r.Left, want.Left) }},
		{"Grid", wiped(r.Grid.Cells, 77-7i), func(want api.Report) bool { return sample.SameField(r.Grid, want.Grid) }},
		{"Projs", wiped(r.Sino.Projs, api.Proj{Dir: api.Dir{P: 99}}), func(want api.Report) bool { return sample.SameSino(r.Sino, want.Sino) }},
	}
	for i, p := range r.Sino.Projs {
		out = append(out, piece{"Bins", wiped(p.Bins, 77-7i), func(want api.Report) bool { return sample.SameProj(p, want.Sino.Projs[i]) }})
	}
	return out
}

// P23.4: no two lists of one answer share memory: one that is written over shows in no other.
func TestListsOfOneAnswer(t *testing.T) {
	solved := 0
	for _, j := range jobs() {
		want, e := scan.Run(j.p, j.plan)
		if e != api.OK || len(j.plan.Dirs) > 20 {
			continue
		}
		want = copied(want)
		for k := range pieces(want) {
			all := pieces(run(t, j.p, j.plan))
			all[k].wipe()
			for i, other := range all {
				// The list of projections holds the bins, so these show in it.
				if i != k && !(other.name == "Projs" && all[k].name == "Bins") && !other.same(want) {
					t.Fatalf("%s: %s and %s share memory", about(j.p, j.plan), all[k].name, other.name)
				}
			}
		}
		if want.Open == 0 {
			solved++
		}
	}
	if solved < 100 {
		t.Errorf("only %d have a grid", solved)
	}
}

// P23.4: an answer shares no memory with what was handed in, nor with another answer, of before or of later.
func TestAnswersAreNew(t *testing.T) {
	for _, j := range jobs() {
		if _, e := scan.Run(j.p, j.plan); e != api.OK {
			continue
		}
		same, all := roomy(j)
		before := owned(all)
		first, second := run(t, same.p, same.plan), run(t, same.p, same.plan)
		want := copied(first)
		for _, p := range pieces(first) {
			p.wipe()
		}
		if !sameJob(all, before) {
			t.Fatalf("%s: the answer shares memory with what was handed in", about(j.p, j.plan))
		}
		if !sameReport(second, want) || !sameReport(run(t, same.p, same.plan), want) {
			t.Fatalf("%s: the answer shares memory with another one", about(j.p, j.plan))
		}
		wipe(all)
		if !sameReport(second, want) {
			t.Fatalf("%s: what was handed in shows in the answer later", about(j.p, j.plan))
		}
	}
}

// P1, rule 5: calls at the same time do not show in each other's answers, and nothing is kept from one to the next.
func TestAtTheSameTime(t *testing.T) {
	d := sample.Dice(246)
	p, dirs := d.Within(13), sample.Dirs()
	raster, _ := phantom.Raster(p)
	missing := []int{0, 4, 19}
	every := func(r api.Report, e api.Errno) []complex128 {
		out := append([]complex128{complex(float64(r.Open), float64(e)), complex(float64(len(r.Left)), float64(r.Sino.N))}, r.Grid.Cells...)
		for _, p := range r.Sino.Projs {
			out = append(out, p.Bins...)
		}
		return out
	}
	walk := d.Walk(raster, len(dirs))
	for name, call := range map[string]func() []complex128{
		"Run": func() []complex128 { return every(scan.Run(p, api.Plan{Dirs: dirs, Missing: missing, Workers: 16})) },
		"Run, moved": func() []complex128 {
			return every(scan.Run(p, api.Plan{Dirs: dirs, Missing: missing, Steps: walk, Workers: 3}))
		},
		"Run, lost": func() []complex128 {
			return every(scan.Run(p, api.Plan{Dirs: dirs, Steps: sample.Same(api.Step{X: 13}, len(dirs)), Workers: 5}))
		},
		"Least": func() []complex128 {
			many, e := scan.Least(p, dirs)
			return []complex128{complex(float64(many), float64(e))}
		},
	} {
		if !sample.Alone(call) {
			t.Errorf("%s answers otherwise beside itself", name)
		}
	}
}
