package back_test

import (
	"math"
	"testing"

	"penumbra/api"
	"penumbra/back"
	"penumbra/sample"
)

// filtered: the field that must be there.
func filtered(t *testing.T, n int, projs []api.Proj, kind int) api.Grid {
	t.Helper()
	f, e := back.Filtered(n, projs, kind)
	return right(t, f, e)
}

// P17.1: answers that are exact, written out.
func TestFilteredExamples(t *testing.T) {
	for _, c := range []struct {
		n, kind int
		projs   []api.Proj
		want    []complex128
	}{
		{1, api.Ramp, []api.Proj{sample.Proj(1, 0, 4)}, []complex128{1}},
		{1, api.Flat, []api.Proj{sample.Proj(1, 0, 4), sample.Proj(0, 1, 3i)}, []complex128{4 + 3i}},
		{1, api.Soft, []api.Proj{sample.Proj(1, 0, 4)}, []complex128{0}},
		{2, api.Ramp, []api.Proj{sample.Proj(0, 1, 8, -8i)}, []complex128{2 + 1i, -1 - 2i, 2 + 1i, -1 - 2i}},
		{2, api.Ramp, []api.Proj{sample.Proj(0, 1, 8, -8i), sample.Proj(1, 0, 8, 8)}, []complex128{3 + 1i, -2i, 3 + 1i, -2i}},
		{2, api.Soft, []api.Proj{sample.Proj(1, 0, 8, -8i)}, []complex128{complex(0, -0.5), complex(0, -0.5), 0.5, 0.5}},
		{2, api.Flat, example(), []complex128{7, 9, 11, 13}},
		{2, api.Soft, nil, make([]complex128, 4)},
	} {
		for place, v := range filtered(t, c.n, c.projs, c.kind).Cells {
			if v != c.want[place] {
				t.Errorf("kind %d, %s, cell %d: %v, not %v", c.kind, about(c.n, c.projs), place, v, c.want[place])
			}
		}
	}
}

// P17.1: by every kind the field of the projections whose bins are filtered, bit by bit, as All tells it and by the rules.
func TestFilteredByItsRules(t *testing.T) {
	d := sample.Dice(174)
	for _, n := range []int{1, 2, 3, 4, 5, 8, 13, 16, 33, 64} {
		for i, dirs := range sample.Along() {
			for j, part := range d.Parts() {
				if n > 8 && (i+j)%5 != 0 { // transforms of thousands of bins take their time
					continue
				}
				given := projs(n, dirs, part)
				for _, kind := range kinds() {
					sharp := sharpened(given, kind)
					got := filtered(t, n, given, kind)
					checkField(t, about(n, given), got, all(t, n, sharp))
					checkField(t, about(n, given), got, sample.Laid(n, sharp))
				}
			}
		}
	}
}

// P17.1: as many bins as there are at the most can be filtered.
func TestFilteredOfTheMost(t *testing.T) {
	d := sample.Dice(175)
	for _, dirs := range [][]api.Dir{{{P: 16, Q: 15}}, {{P: -16, Q: 15}, {P: 15, Q: 16}}, {{P: -15, Q: 16}}, sample.Wheel()[:64]} {
		given := projs(64, dirs, d.Near)
		for _, kind := range kinds() {
			checkField(t, about(64, given), filtered(t, 64, given, kind), sample.Laid(64, sharpened(given, kind)))
		}
	}
}

// P17.1: what is no kind, also of no projections; where nothing else is wrong.
func TestNoKinds(t *testing.T) {
	for _, kind := range noKinds() {
		for _, n := range sample.Sides() {
			for _, given := range [][]api.Proj{nil, {}, {sample.Blank(n, api.Dir{P: 1})}, sample.Blanks(n, sample.Dirs()).Projs, {api.Proj{Dir: api.Dir{Q: 1}, Bins: make([]complex128, n)}}} {
				noFiltered(t, n, given, kind, api.ErrFilter)
			}
		}
		noFiltered(t, 0, nil, kind, api.ErrArg)
		noFiltered(t, math.MaxInt, nil, kind, api.ErrArg)
	}
}
