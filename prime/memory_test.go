package prime_test

import (
	"slices"
	"testing"

	"penumbra/api"
	"penumbra/prime"
	"penumbra/sample"
)

// asSino: lists as bins, whose memory package sample looks at.
func asSino(l [][]complex128) api.Sino {
	var out api.Sino
	for _, list := range l {
		out.Projs = append(out.Projs, api.Proj{Bins: list})
	}
	return out
}

// asLists: the other way.
func asLists(s api.Sino) [][]complex128 {
	var out [][]complex128
	for _, p := range s.Projs {
		out = append(out, p.Bins)
	}
	return out
}

// lists: of grids and others, with every error among them.
func lists() [][][]complex128 {
	out := [][][]complex128{nil, {}, {{1}}, {{1, 2}, {3}}, filled(4, 1), filled(67, 1), {nil, nil, nil}, {{1, 2}, {1}, {1, 2}}, {{1, 2}, {0.5, 3}, {3, 0}}, filled(2, api.MaxBin+1), filled(3, api.MaxBin), {{1, 0}, {1, 0}, {0, 1}}}
	for _, p := range primes() {
		l := transform(sample.Grids(p)[5])
		out = append(out, l, filled(p, 0), added(l, p, 0, 1), transform(sample.Filled(p, api.MaxPart+1)), with(l, p, nil))
	}
	return out
}

// P15.4: grids that are handed in are not changed, the room behind their cells neither, whatever is answered.
func TestGridsAreNotChanged(t *testing.T) {
	all := append(sample.NoGrids(), sample.Numbered(1), sample.Numbered(4), sample.Numbered(63), sample.Numbered(64))
	for _, p := range primes() {
		all = append(all, grids(p)...)
	}
	for _, g := range all {
		if sample.Changed(g.Cells, func(cells []complex128) { prime.Forward(api.Grid{N: g.N, Cells: cells}) }) {
			t.Fatalf("side %d, %d cells: changed", g.N, len(g.Cells))
		}
	}
}

// P15.4: nor are lists, nor the room behind any of them.
func TestListsAreNotChanged(t *testing.T) {
	count := map[api.Errno]int{}
	for _, l := range lists() {
		if sample.ChangedSino(asSino(l), func(same api.Sino) {
			_, e := prime.Back(asLists(same))
			count[e]++
		}) {
			t.Fatalf("%d lists: a list is changed", len(l))
		}
		room := slices.Concat(l, [][]complex128{{7, 8}, nil, {9}})
		before := copied(room)
		where := slices.Clone(room)
		prime.Back(room[:len(l)])
		for i, list := range room {
			if len(list) != len(where[i]) || len(list) > 0 && &list[0] != &where[i][0] {
				t.Fatalf("%d lists: another one stands in the place of number %d", len(l), i)
			}
		}
		if !slices.EqualFunc(room, before, func(a, b []complex128) bool { return slices.Equal(sample.Bits(a), sample.Bits(b)) }) {
			t.Fatalf("%d lists: changed", len(l))
		}
	}
	for _, e := range []api.Errno{api.OK, api.ErrPrime, api.ErrBins, api.ErrClash} {
		if count[e] == 0 {
			t.Errorf("none of them is told error %d", e)
		}
	}
}

// P15.4: Forward's lists share no memory with the grid, with another answer or with each other.
func TestListsAreNew(t *testing.T) {
	for _, p := range primes() {
		g := sample.Numbered(p)
		for m := range p + 1 {
			shares := sample.Shared(g.Cells, func(cells []complex128) []complex128 {
				return forward(t, api.Grid{N: p, Cells: cells})[m]
			})
			if shares != "" {
				t.Fatalf("side %d: list %d shares memory with %s", p, m, shares)
			}
			if p > 13 && m > 1 {
				break
			}
		}
		if shares := sample.SharedSino(func() api.Sino { return asSino(forward(t, g)) }); shares != "" {
			t.Fatalf("side %d: a list shares memory with %s", p, shares)
		}
		first, second := forward(t, g), forward(t, g)
		clear(first[:cap(first)])
		if !sameLists(second, transform(g)) || !sameLists(forward(t, g), transform(g)) {
			t.Fatalf("side %d: two answers are one list of lists", p)
		}
	}
}

// P15.4: Back's cells share no memory with any list, nor with another answer.
func TestGridsAreNew(t *testing.T) {
	for _, p := range primes() {
		l := transform(sample.Numbered(p))
		for _, m := range someOf(p + 1) {
			shares := sample.Shared(l[m], func(list []complex128) []complex128 {
				g, e := prime.Back(with(l, m, list))
				return right(t, g, e).Cells
			})
			if shares != "" {
				t.Fatalf("side %d: the cells share memory with %s, list %d", p, shares, m)
			}
		}
	}
}

// P15.4: Line answers cells of its own.
func TestCellsAreNew(t *testing.T) {
	for _, p := range primes() {
		for _, m := range someOf(p + 1) {
			for _, at := range someOf(p) {
				first, _ := prime.Line(p, m, at)
				second, _ := prime.Line(p, m, at)
				room := first[:cap(first)]
				for i := range room {
					room[i] = api.Cell{X: -9, Y: 99}
				}
				third, _ := prime.Line(p, m, at)
				if want := cellsOf(p, m, at); !slices.Equal(second, want) || !slices.Equal(third, want) {
					t.Fatalf("%d, line %d, %d: two answers are one memory", p, m, at)
				}
			}
		}
	}
}

// P1, rule 5: calls at the same time do not show in each other's answers.
func TestAtTheSameTime(t *testing.T) {
	g := sample.Grids(31)[5]
	l := transform(g)
	wrong := added(l, 3, 4, 31)
	for name, call := range map[string]func() []complex128{
		"Forward": func() []complex128 {
			l, _ := prime.Forward(g)
			return slices.Concat(l...)
		},
		"Back": func() []complex128 {
			g, e := prime.Back(l)
			_, e2 := prime.Back(wrong)
			return append(g.Cells, complex(float64(e), float64(e2)))
		},
		"Is and Line": func() []complex128 {
			out := []complex128{0}
			cells, _ := prime.Line(31, 5, 7)
			for _, c := range cells {
				out = append(out, complex(float64(c.X), float64(c.Y)))
			}
			if prime.Is(31) {
				out[0] = 1
			}
			return out
		},
	} {
		if !sample.Alone(call) {
			t.Errorf("%s answers otherwise beside itself", name)
		}
	}
}
