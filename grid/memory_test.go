package grid_test

import (
	"testing"

	"penumbra/api"
	"penumbra/grid"
	"penumbra/sample"
)

// handedTwo: calls that are handed two grids, the one that is looked at and another one beside it.
func handedTwo(beside api.Grid) map[string]func(g api.Grid) (api.Grid, api.Errno) {
	return map[string]func(g api.Grid) (api.Grid, api.Errno){
		"Add, beside": func(g api.Grid) (api.Grid, api.Errno) { return grid.Add(beside, g) },
		"Sub, beside": func(g api.Grid) (api.Grid, api.Errno) { return grid.Sub(beside, g) },
	}
}

// P5.4: what is handed in is not changed, its spare room neither, whatever is answered.
func TestNotChanged(t *testing.T) {
	all := sample.NoGrids()
	for _, n := range sample.Sides() {
		all = append(all, sample.Grids(n)...)
	}
	for _, g := range all {
		n := max(1, min(g.N, 64))
		every := calls(n)
		every["Check"] = func(g api.Grid) (api.Grid, api.Errno) { return api.Grid{}, grid.Check(g) }
		every["At"] = func(g api.Grid) (api.Grid, api.Errno) { grid.At(g, n-1, 0); return api.Grid{}, api.OK }
		every["Sum"] = func(g api.Grid) (api.Grid, api.Errno) { grid.Sum(g); return api.Grid{}, api.OK }
		every["Box"] = func(g api.Grid) (api.Grid, api.Errno) { grid.Box(g); return api.Grid{}, api.OK }
		for name, do := range every {
			if sample.Changed(g.Cells, func(cells []complex128) { do(api.Grid{N: g.N, Cells: cells}) }) {
				t.Fatalf("%s changed a grid of side %d with %d cells", name, g.N, len(g.Cells))
			}
		}
	}
}

// P5.4: an answer is new memory, shared with no argument and no other answer, also where it has the argument's own cells.
func TestAnswersAreNew(t *testing.T) {
	for _, n := range sample.Sides() {
		for _, g := range []api.Grid{sample.Numbered(n), sample.Filled(n, 0)} {
			every := calls(n)
			for name, do := range handedTwo(sample.Numbered(n)) {
				every[name] = do
			}
			every["Add 0"] = func(g api.Grid) (api.Grid, api.Errno) { return grid.Add(g, sample.Filled(n, 0)) }
			every["Sub 0"] = func(g api.Grid) (api.Grid, api.Errno) { return grid.Sub(g, sample.Filled(n, 0)) }
			every["Put the same"] = func(h api.Grid) (api.Grid, api.Errno) { return grid.Put(h, 0, 0, g.Cells[0]) }
			every["New"] = func(api.Grid) (api.Grid, api.Errno) { return grid.New(n) }
			for name, do := range every {
				shares := sample.Shared(g.Cells, func(cells []complex128) []complex128 {
					out, _ := do(api.Grid{N: n, Cells: cells})
					return out.Cells
				})
				if shares != "" {
					t.Errorf("%s of side %d: the answer shares memory with %s", name, n, shares)
				}
			}
		}
	}
}

// P5.4: neither of two grids shares its memory with the answer, the one that stands beside neither.
func TestNewBesideTwo(t *testing.T) {
	for _, n := range sample.Sides() {
		beside := sample.Numbered(n)
		before := sample.Bits(beside.Cells)
		for name, do := range handedTwo(beside) {
			out, e := do(sample.Filled(n, 0))
			right(t, out, e)
			for j := range out.Cells {
				out.Cells[j] = 0.25
			}
			for j, bits := range sample.Bits(beside.Cells) {
				if bits != before[j] {
					t.Fatalf("%s of side %d: the answer shares memory with the other grid", name, n)
				}
			}
		}
	}
}

// P1, rule 5: calls at the same time do not show in each other's answers.
func TestAtTheSameTime(t *testing.T) {
	g := sample.Numbered(32)
	for name, do := range calls(32) {
		alone := sample.Alone(func() []complex128 {
			out, _ := do(g)
			return out.Cells
		})
		if !alone {
			t.Errorf("%s answers otherwise beside itself", name)
		}
	}
}
