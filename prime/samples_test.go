package prime_test

import (
	"slices"
	"testing"

	"penumbra/api"
	"penumbra/cx"
	"penumbra/prime"
	"penumbra/sample"
)

// primes: all that there are.
func primes() []int {
	return []int{2, 3, 5, 7, 11, 13, 17, 19, 23, 29, 31, 37, 41, 43, 47, 53, 59, 61}
}

// noPrimes: below 2, products, primes beyond the limit and their neighbours, and the ends of int.
func noPrimes() []int {
	out := append(sample.Ends(), -61, -5, -3, -2, -1, 0, 1, 67, 71, 121, 127, 257, 3721, 4096, 65537, 1<<31-1, 1<<61-1)
	for p := 2; p <= 66; p++ {
		if !slices.Contains(primes(), p) {
			out = append(out, p)
		}
	}
	return out
}

// striped: cells of the greatest parts, by turns of either sign along rows, columns or both, so that many sums are noughts.
func striped(p int) []api.Grid {
	var out []api.Grid
	for _, step := range [][2]int{{1, 0}, {0, 1}, {1, 1}} {
		g := sample.Filled(p, complex(api.MaxPart, -api.MaxPart))
		for place := range g.Cells {
			if (step[0]*(place%p)+step[1]*(place/p))%2 == 1 {
				g.Cells[place] = complex(-api.MaxPart, api.MaxPart)
			}
		}
		out = append(out, g)
	}
	return out
}

// lone: one cell that isn't 0, at the corners and inside.
func lone(p int) []api.Grid {
	var out []api.Grid
	for k, place := range []int{0, p - 1, p * p / 2, p*p - p, p*p - 1} {
		v := []complex128{1, complex(-api.MaxPart, api.MaxPart), -1i}[k%3]
		out = append(out, sample.With(sample.Filled(p, 0), place, v))
	}
	return out
}

// grids: sound ones of every kind.
func grids(p int) []api.Grid {
	return slices.Concat(sample.Grids(p), striped(p), lone(p))
}

// copied: lists in memory of their own.
func copied(l [][]complex128) [][]complex128 {
	var out [][]complex128
	for _, list := range l {
		out = append(out, slices.Clone(list))
	}
	return out
}

// with: the lists, but for one of them.
func with(l [][]complex128, m int, list []complex128) [][]complex128 {
	out := slices.Clone(l)
	out[m] = list
	return out
}

// added: the lists with so much more at one place.
func added(l [][]complex128, m, t int, more complex128) [][]complex128 {
	list := slices.Clone(l[m])
	list[t] += more
	return with(l, m, list)
}

// filled: p + 1 lists of p numbers v.
func filled(p int, v complex128) [][]complex128 {
	var out [][]complex128
	for range p + 1 {
		out = append(out, slices.Repeat([]complex128{v}, p))
	}
	return out
}

// someOf: all places of a small list, some of a greater one, the first and the last among them.
func someOf(many int) []int {
	var out []int
	for place := range many {
		if many <= 8 || place < 2 || place > many-3 || place == many/2 {
			out = append(out, place)
		}
	}
	return out
}

// sameLists: the same bits at each place.
func sameLists(a, b [][]complex128) bool {
	return slices.EqualFunc(a, b, func(a, b []complex128) bool { return slices.EqualFunc(a, b, sample.Agree) })
}

// right: what was answered without an error.
func right[T any](t *testing.T, got T, e api.Errno) T {
	t.Helper()
	if e != api.OK {
		t.Fatalf("error %d", e)
	}
	return got
}

// forward: the transform that must be there.
func forward(t *testing.T, g api.Grid) [][]complex128 {
	t.Helper()
	l, e := prime.Forward(g)
	return right(t, l, e)
}

// refused: with that error, and nothing beside it.
func refused(t *testing.T, name string, empty bool, e, want api.Errno) {
	t.Helper()
	if e != want || !empty {
		t.Fatalf("%s: error %d, not %d, or something beside it", name, e, want)
	}
}

// noBack: Back tells that error.
func noBack(t *testing.T, name string, l [][]complex128, want api.Errno) {
	t.Helper()
	if g, e := prime.Back(l); e != want || g.N != 0 || len(g.Cells) != 0 {
		t.Fatalf("%s, %d lists: error %d, not %d, or something beside it; the first lists: %v", name, len(l), e, want, l[:min(len(l), 4)])
	}
}

// clash: there is no such grid, by the chapter's words in whole numbers too.
func clash(t *testing.T, name string, l [][]complex128) {
	t.Helper()
	if _, e := solved(l); e != api.ErrClash {
		t.Fatalf("%s, %d lists: there is such a grid", name, len(l))
	}
	noBack(t, name, l, api.ErrClash)
}

// leadsBack: Back tells that grid, bit by bit.
func leadsBack(t *testing.T, l [][]complex128, want api.Grid) {
	t.Helper()
	got, e := prime.Back(l)
	right(t, got, e)
	if got.N != want.N || len(got.Cells) != len(want.Cells) {
		t.Fatalf("%d lists: side %d with %d cells, not %d with %d", len(l), got.N, len(got.Cells), want.N, len(want.Cells))
	}
	for place := range want.Cells {
		if !sample.Agree(got.Cells[place], want.Cells[place]) {
			t.Fatalf("side %d, cell %d: %s, not %s", want.N, place, cx.Text(got.Cells[place]), cx.Text(want.Cells[place]))
		}
	}
}
