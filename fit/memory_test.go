package fit_test

import (
	"slices"
	"testing"

	"penumbra/api"
	"penumbra/fit"
	"penumbra/sample"
)

// A job is what a call is handed.
type job struct {
	f     api.Grid
	projs []api.Proj
}

// few: some of each kind, with faults and without, small enough to be gone through many times.
func few() []job {
	d := sample.Dice(189)
	out := []job{{square(1, 0), eight()}, {square(2, 1), eight()}, {square(2, 1, 2, 3, 4), make([]api.Proj, 65)}}
	for _, n := range []int{1, 2, 5} {
		for i, dirs := range sample.Along() {
			part := d.Parts()[i%12]
			out = append(out, job{field(n, part), sample.Projs(n, dirs, part).Projs}, job{field(n+1, part), sample.Projs(n, dirs, part).Projs}, job{sample.Numbered(n), sample.Seen(sample.Numbered(n), dirs).Projs})
		}
	}
	for _, s := range sample.FewFlaws() {
		out = append(out, job{sample.Numbered(min(max(s.N, 1), 13)), s.Projs})
	}
	return out
}

// P18.5: what is handed in is not changed: neither the field's cells nor the list of projections, nor a direction, nor bins, nor the room behind any of these, whatever is answered.
func TestNotChanged(t *testing.T) {
	count := map[api.Errno]int{}
	for _, j := range few() {
		changed := sample.Changed(j.f.Cells, func(cells []complex128) {
			f := api.Grid{N: j.f.N, Cells: cells}
			bins := sample.ChangedSino(api.Sino{N: j.f.N, Projs: j.projs}, func(same api.Sino) {
				_, e := fit.Rests(f, same.Projs)
				count[e]++
				fit.Great(same.Projs)
				for _, c := range [][2]int{{0, 0}, {1, 0}, {3, 5}, {64, 30}, {-1, 0}, {1, 31}} {
					fit.Run(f, same.Projs, c[0], c[1])
				}
			})
			if bins {
				t.Fatalf("%s: the projections are changed", about(j.f.N, j.projs))
			}
		})
		if changed {
			t.Fatalf("%s: the field is changed", about(j.f.N, j.projs))
		}
	}
	for _, e := range []api.Errno{api.OK, api.ErrArg, api.ErrLong, api.ErrDir, api.ErrBins} {
		if count[e] == 0 {
			t.Errorf("none of them is told error %d", e)
		}
	}
}

// runs: those that end at once, for the projections' sake or for want of rounds, and those that go on.
func runs() [][2]int { return [][2]int{{0, 0}, {1, 0}, {3, 5}, {7, 30}} }

// P18.5: a field that is answered shares no memory with the field or with bins that were handed in, nor with another answer, of before or of later.
func TestFieldsAreNew(t *testing.T) {
	for _, j := range few() {
		if fault(j.f, j.projs) != api.OK {
			continue
		}
		given := api.Sino{N: j.f.N, Projs: j.projs}
		for _, c := range runs() {
			name := aboutRun(j.f.N, j.projs, c[0], c[1])
			shares := sample.Shared(j.f.Cells, func(cells []complex128) []complex128 {
				return run(t, api.Grid{N: j.f.N, Cells: cells}, j.projs, c[0], c[1]).Field.Cells
			})
			if shares != "" {
				t.Fatalf("%s: the field's cells share memory with %s", name, shares)
			}
			shares = sample.SharedSinos(given, func(same api.Sino) api.Sino {
				cells := run(t, j.f, same.Projs, c[0], c[1]).Field.Cells
				return api.Sino{N: j.f.N, Projs: []api.Proj{{Bins: cells}}}
			})
			if shares != "" {
				t.Fatalf("%s: the field's cells share memory with %s of projections", name, shares)
			}
		}
	}
}

// P18.5: nor do rests, nor any two lists of them.
func TestRestsAreNew(t *testing.T) {
	for _, j := range few() {
		if fault(j.f, j.projs) != api.OK {
			continue
		}
		shares := sample.SharedSinos(api.Sino{N: j.f.N, Projs: j.projs}, func(same api.Sino) api.Sino {
			return api.Sino{N: same.N, Projs: rests(t, j.f, same.Projs)}
		})
		if shares != "" {
			t.Fatalf("%s: the rests share memory with %s", about(j.f.N, j.projs), shares)
		}
		for place := range j.projs {
			shares := sample.Shared(j.f.Cells, func(cells []complex128) []complex128 {
				return rests(t, api.Grid{N: j.f.N, Cells: cells}, j.projs)[place].Bins
			})
			if shares != "" {
				t.Fatalf("%s: rest %d shares memory with %s", about(j.f.N, j.projs), place, shares)
			}
		}
	}
}

// P18.5: sizes are new memory too.
func TestSizesAreNew(t *testing.T) {
	for _, c := range runs() {
		first, second := run(t, square(1, 0), eight(), c[0], c[1]), run(t, square(1, 0), eight(), c[0], c[1])
		want := slices.Clone(first.Sizes)
		for i := range first.Sizes[:cap(first.Sizes)] {
			first.Sizes[:cap(first.Sizes)][i] = -1
		}
		if !slices.Equal(second.Sizes, want) || !slices.Equal(run(t, square(1, 0), eight(), c[0], c[1]).Sizes, want) {
			t.Errorf("%d rounds, down %d: the sizes share memory with another answer's", c[0], c[1])
		}
	}
}

// P1, rule 5: calls at the same time do not show in each other's answers.
func TestAtTheSameTime(t *testing.T) {
	d := sample.Dice(190)
	f, projs := field(13, d.Near), sample.Projs(13, sample.Dirs(), d.Near).Projs
	calls := map[string]func() []complex128{
		"Run": func() []complex128 {
			got, _ := fit.Run(f, projs, 9, 5)
			out := got.Field.Cells
			for _, size := range got.Sizes {
				out = append(out, complex(size, 0))
			}
			return out
		},
		"Rests": func() []complex128 {
			got, _ := fit.Rests(f, projs)
			var out []complex128
			for _, p := range got {
				out = append(out, p.Bins...)
			}
			return out
		},
		"Great": func() []complex128 { return []complex128{complex(fit.Great(projs), 0)} },
	}
	for name, call := range calls {
		if !sample.Alone(call) {
			t.Errorf("%s answers otherwise beside itself", name)
		}
	}
}
