package plane_test

import (
	"math"
	"testing"

	"penumbra/api"
	"penumbra/plane"
	"penumbra/sample"
)

// calls: each of them, telling its list alone.
func calls() map[string]func(f api.Grid) ([]complex128, api.Errno) {
	cellsOf := func(do call) func(f api.Grid) ([]complex128, api.Errno) {
		return func(f api.Grid) ([]complex128, api.Errno) {
			g, e := do(f)
			return g.Cells, e
		}
	}
	return map[string]func(f api.Grid) ([]complex128, api.Errno){
		"Forward": cellsOf(plane.Forward),
		"Back":    cellsOf(plane.Back),
		"Across":  cellsOf(plane.Across),
		"Line":    func(f api.Grid) ([]complex128, api.Errno) { return plane.Line(f, -3, math.MaxInt) },
		"row":     func(f api.Grid) ([]complex128, api.Errno) { return plane.Line(f, 1, 0) },
	}
}

// P4.5: what is handed in is not changed, its spare room neither, whatever is answered.
func TestNotChanged(t *testing.T) {
	var all []api.Grid
	for _, n := range sides() {
		all = append(all, fields(n, sample.Lists)...)
	}
	all = append(all, wrong()...)
	for name, do := range calls() {
		for _, f := range all {
			if sample.Changed(f.Cells, func(cells []complex128) { do(api.Grid{N: f.N, Cells: cells}) }) {
				t.Fatalf("%s changed a field of side %d with %d cells", name, f.N, len(f.Cells))
			}
		}
	}
}

// P4.5: an answer is new memory, shared with no argument and no other answer.
func TestAnswersAreNew(t *testing.T) {
	for name, do := range calls() {
		for _, n := range sides() {
			d := sample.Dice(n)
			with := sample.Shared(d.List(n*n, d.Near), func(cells []complex128) []complex128 {
				out, _ := do(api.Grid{N: n, Cells: cells})
				return out
			})
			if with != "" {
				t.Errorf("%s of side %d: the answer shares memory with %s", name, n, with)
			}
		}
	}
}

// P1, rule 5: calls at the same time do not show in each other's answers.
func TestAtTheSameTime(t *testing.T) {
	d := sample.Dice(6)
	f := api.Grid{N: 32, Cells: d.List(32*32, d.Near)}
	for name, do := range calls() {
		alone := sample.Alone(func() []complex128 {
			out, _ := do(f)
			return out
		})
		if !alone {
			t.Errorf("%s answers otherwise beside itself", name)
		}
	}
}
