package torus_test

import (
	"math"
	"testing"

	"penumbra/api"
	"penumbra/sample"
	"penumbra/torus"
)

// P12.4: what is handed in is not changed, its spare room neither, whatever is answered.
func TestNotChanged(t *testing.T) {
	all := sample.NoGrids()
	for _, n := range append(powers(), others()...) {
		all = append(all, grids(n)...)
	}
	for _, g := range all {
		for _, s := range []slope{{0, 0}, {1, 3}, {math.MinInt, -5}} {
			changed := sample.Changed(g.Cells, func(cells []complex128) {
				same := api.Grid{N: g.N, Cells: cells}
				torus.Project(same, s.a, s.b)
				torus.Slice(same, s.a, s.b)
				torus.Prove(same, s.a, s.b)
			})
			if changed {
				t.Fatalf("side %d, %d cells, along %v: changed", g.N, len(g.Cells), s)
			}
		}
	}
}

// P12.4: an answer is new memory, shared with no argument and no other answer, of before or of later.
func TestAnswersAreNew(t *testing.T) {
	for _, n := range append(powers(), others()...) {
		for _, s := range someSlopes(n) {
			shares := sample.Shared(sample.Numbered(n).Cells, func(cells []complex128) []complex128 {
				bins, _ := torus.Project(api.Grid{N: n, Cells: cells}, s.a, s.b)
				return bins
			})
			if shares != "" {
				t.Fatalf("Project, side %d, along %v: the bins share memory with %s", n, s, shares)
			}
			shares = sample.Shared(sample.Numbered(n).Cells, func(cells []complex128) []complex128 {
				bins, _ := torus.Slice(api.Grid{N: n, Cells: cells}, s.a, s.b)
				return bins
			})
			if shares != "" {
				t.Fatalf("Slice, side %d, along %v: the bins share memory with %s", n, s, shares)
			}
		}
	}
}

// P1, rule 5: calls at the same time do not show in each other's answers.
func TestAtTheSameTime(t *testing.T) {
	g := sample.Grids(32)[5]
	for name, call := range map[string]func() []complex128{
		"Project": func() []complex128 {
			bins, _ := torus.Project(g, 3, -5)
			return bins
		},
		"Slice": func() []complex128 {
			bins, _ := torus.Slice(g, 3, -5)
			return bins
		},
		"Prove and Bound": func() []complex128 {
			far, _ := torus.Prove(g, 3, -5)
			bound, _ := torus.Bound(32)
			return []complex128{complex(far, bound)}
		},
	} {
		if !sample.Alone(call) {
			t.Errorf("%s answers otherwise beside itself", name)
		}
	}
}
