package prime_test

import (
	"slices"
	"testing"

	"penumbra/api"
	"penumbra/prime"
	"penumbra/sample"
)

func four() api.Grid { return api.Grid{N: 2, Cells: []complex128{1, 2, 3, 4}} }

// P15.1: the chapter's examples.
func TestExamples(t *testing.T) {
	l := forward(t, four())
	if !sameLists(l, [][]complex128{{3, 7}, {5, 5}, {4, 6}}) {
		t.Errorf("Forward: %v", l)
	}
	leadsBack(t, l, four())
	noBack(t, "6 in the place of 7", [][]complex128{{3, 6}, {5, 5}, {4, 6}}, api.ErrClash)
	if prime.Is(1) || prime.Is(67) {
		t.Error("Is")
	}
	l, e := prime.Forward(sample.Filled(4, 0))
	refused(t, "Forward of side 4", len(l) == 0, e, api.ErrPrime)
}

// P15.1: Is at every number about the limit, and at the ends of int.
func TestIs(t *testing.T) {
	numbers := noPrimes()
	for p := -300; p <= 5000; p++ {
		numbers = append(numbers, p)
	}
	for _, p := range numbers {
		if prime.Is(p) != slices.Contains(primes(), p) {
			t.Errorf("%d: %v", p, prime.Is(p))
		}
	}
}

// P15.1: transforms that are written out; what cancels out is +0.
func TestForwardWrittenOut(t *testing.T) {
	for _, c := range []struct {
		g    api.Grid
		want [][]complex128
	}{
		{api.Grid{N: 2, Cells: []complex128{1, -1, -1, 1}}, [][]complex128{{0, 0}, {2, -2}, {0, 0}}},
		{api.Grid{N: 2, Cells: []complex128{3i, 5, -5, -3i}}, [][]complex128{{5 + 3i, -5 - 3i}, {0, 0}, {-5 + 3i, 5 - 3i}}},
		{api.Grid{N: 3, Cells: []complex128{1, 2 - 1i, 3, 4, 5i, 6, 7, -8, 9 + 9i}}, [][]complex128{{6 - 1i, 10 + 5i, 8 + 9i}, {10 + 14i, -1, 15 - 1i}, {-1, 15 + 8i, 10 + 5i}, {12, -6 + 4i, 18 + 9i}}},
		// One cell, (1, 3), shows at the places 3 - m of the lists 0 to 4, and at place 1 of the last one.
		{sample.With(sample.Filled(5, 0), 3*5+1, 7-2i), [][]complex128{{0, 0, 0, 7 - 2i, 0}, {0, 0, 7 - 2i, 0, 0}, {0, 7 - 2i, 0, 0, 0}, {7 - 2i, 0, 0, 0, 0}, {0, 0, 0, 0, 7 - 2i}, {0, 7 - 2i, 0, 0, 0}}},
	} {
		if l := forward(t, c.g); !sameLists(l, c.want) {
			t.Errorf("%v: %v, not %v", c.g, l, c.want)
		}
		if !sameLists(transform(c.g), c.want) {
			t.Errorf("%v: counted %v, not %v", c.g, transform(c.g), c.want)
		}
		leadsBack(t, c.want, c.g)
	}
}

// P15.1: Forward at every prime side, counted cell by cell.
func TestForward(t *testing.T) {
	for _, p := range primes() {
		for k, g := range grids(p) {
			if p > 31 && (k+p)%3 != 0 {
				continue // the counts take long
			}
			if l := forward(t, g); !sameLists(l, transform(g)) {
				t.Fatalf("side %d, grid %d: not what is counted", p, k)
			}
		}
	}
}

// P15.1: the greatest sums there are, either way, and noughts, which have no sign.
func TestForwardEdges(t *testing.T) {
	for _, p := range primes() {
		for _, v := range []complex128{complex(api.MaxPart, -api.MaxPart), complex(-api.MaxPart, api.MaxPart), complex(0, -api.MaxPart), complex(-api.MaxPart, 0), 0} {
			want := complex(float64(p)*real(v), float64(p)*imag(v))
			if l := forward(t, sample.Filled(p, v)); !sameLists(l, filled(p, want)) {
				t.Fatalf("side %d, cells %v: %v", p, v, l)
			}
		}
		// Two cells beside each other that cancel out: each list has the one, the other, or noughts alone.
		for place := range p*p - 1 {
			v := complex(-api.MaxPart, 3)
			g := sample.With(sample.With(sample.Filled(p, 0), place, v), place+1, -v)
			for m, list := range forward(t, g) {
				for at, got := range list {
					if got != v && got != -v && !sample.Agree(got, 0) {
						t.Fatalf("side %d, cells %d and on, list %d, place %d: %v", p, place, m, at, got)
					}
				}
			}
			if place > 200 {
				break
			}
		}
	}
}

// P15.1: a sound grid whose side is none.
func TestForwardNoPrimes(t *testing.T) {
	for n := 1; n <= api.MaxSide; n++ {
		if slices.Contains(primes(), n) {
			continue
		}
		for _, g := range []api.Grid{sample.Filled(n, 0), sample.Numbered(n), sample.Filled(n, complex(-api.MaxPart, api.MaxPart))} {
			l, e := prime.Forward(g)
			refused(t, "Forward", len(l) == 0, e, api.ErrPrime)
		}
	}
}

// P15.1: a grid that isn't sound is told first, whether its side is a prime number or not.
func TestForwardNoGrids(t *testing.T) {
	all := sample.NoGrids()
	for n := 1; n <= api.MaxSide; n++ {
		cells := sample.Numbered(n).Cells
		all = append(all, api.Grid{N: n}, api.Grid{N: n, Cells: cells[:n*n-1]}, api.Grid{N: n, Cells: append(cells, 1)}, api.Grid{N: -n, Cells: cells})
		for _, v := range []complex128{0.5, complex(0, sample.MinusNought()), complex(sample.MinusNought(), 1), api.MaxPart + 1, complex(3, -api.MaxPart-1)} {
			for _, place := range []int{0, n / 2, n*n - 1} {
				all = append(all, sample.With(sample.Numbered(n), place, v))
			}
		}
	}
	for _, g := range all {
		l, e := prime.Forward(g)
		refused(t, "Forward", len(l) == 0, e, api.ErrGrid)
	}
}

// P15.1: every line of every prime, in the order of its cells.
func TestLine(t *testing.T) {
	for _, p := range primes() {
		for m := range p + 1 {
			for at := range p {
				cells, e := prime.Line(p, m, at)
				if !slices.Equal(right(t, cells, e), cellsOf(p, m, at)) {
					t.Fatalf("%d, line %d, %d: %v, not %v", p, m, at, cells, cellsOf(p, m, at))
				}
			}
		}
	}
}

// P15.1: lines that are written out.
func TestLineWrittenOut(t *testing.T) {
	for line, want := range map[[3]int][]api.Cell{
		{2, 0, 1}: {{X: 0, Y: 1}, {X: 1, Y: 1}},
		{2, 1, 0}: {{X: 0, Y: 0}, {X: 1, Y: 1}},
		{2, 1, 1}: {{X: 0, Y: 1}, {X: 1, Y: 0}},
		{2, 2, 1}: {{X: 1, Y: 0}, {X: 1, Y: 1}},
		{3, 2, 2}: {{X: 0, Y: 2}, {X: 1, Y: 1}, {X: 2, Y: 0}},
		{3, 3, 0}: {{X: 0, Y: 0}, {X: 0, Y: 1}, {X: 0, Y: 2}},
		{5, 2, 1}: {{X: 0, Y: 1}, {X: 1, Y: 3}, {X: 2, Y: 0}, {X: 3, Y: 2}, {X: 4, Y: 4}},
		{5, 5, 4}: {{X: 4, Y: 0}, {X: 4, Y: 1}, {X: 4, Y: 2}, {X: 4, Y: 3}, {X: 4, Y: 4}},
	} {
		cells, e := prime.Line(line[0], line[1], line[2])
		if !slices.Equal(right(t, cells, e), want) {
			t.Errorf("%v: %v, not %v", line, cells, want)
		}
	}
}

// P15.1: what is no number of a list or of a place, of every prime.
func TestLineNoArgs(t *testing.T) {
	for _, p := range primes() {
		noLists := append(sample.Ends(), -p, -1, p+1, p+2, 2*p+1)
		noPlaces := append(sample.Ends(), -p, -1, p, p+1, 2*p)
		var wrong [][2]int
		for m := range p + 1 {
			for _, at := range noPlaces {
				wrong = append(wrong, [2]int{m, at})
			}
		}
		for _, m := range noLists {
			for at := range p {
				wrong = append(wrong, [2]int{m, at})
			}
			for _, at := range noPlaces {
				wrong = append(wrong, [2]int{m, at})
			}
		}
		for _, w := range wrong {
			cells, e := prime.Line(p, w[0], w[1])
			if e != api.ErrArg || len(cells) != 0 {
				t.Fatalf("%d, line %v: %v, error %d", p, w, cells, e)
			}
		}
	}
}

// P15.1: what is no prime is told first.
func TestLineNoPrimes(t *testing.T) {
	for _, p := range noPrimes() {
		args := append(sample.Ends(), -1, 0, 1, 2, p-1, p, p+1)
		for _, m := range args {
			for _, at := range args {
				cells, e := prime.Line(p, m, at)
				if e != api.ErrPrime || len(cells) != 0 {
					t.Fatalf("%d, line %d, %d: %v, error %d", p, m, at, cells, e)
				}
			}
		}
	}
}
