package ghost_test

import (
	"math"
	"slices"
	"testing"

	"penumbra/api"
	"penumbra/cx"
	"penumbra/ghost"
	"penumbra/sample"
)

// wide: four directions whose |P| come to just sum, 49 to 64, with few steps down; high: with P and Q exchanged.
func wide(sum int) []api.Dir {
	return []api.Dir{{P: 16, Q: 1}, {P: -16, Q: 3}, {P: 48 - sum, Q: 1}, {P: 16, Q: 3}}
}

func high(sum int) []api.Dir {
	return []api.Dir{{P: 1, Q: 16}, {P: -3, Q: 16}, {P: -1, Q: sum - 48}, {P: 3, Q: 16}}
}

// lists: of none (both ways of saying it), of each direction alone, of two to eight small ones and of any; many of these have ghosts, and some are too great.
func lists() [][]api.Dir {
	out := [][]api.Dir{nil, {}, sample.Short()[:8], sample.Dirs()[:8], sample.Dirs()[8:16], wide(63), high(63), wide(64), high(64)}
	for _, d := range sample.Wheel() {
		out = append(out, []api.Dir{d})
	}
	d := sample.Dice(13)
	for many := 2; many <= api.MaxGhost; many++ {
		for range 12 {
			out = append(out, d.Picked(sample.Short(), many), d.Picked(sample.Dirs(), many), d.Picked(sample.Wheel(), many))
		}
	}
	return out
}

// filled: each cell v.
func filled(w, h int, v complex128) api.Ghost {
	out := api.Ghost{W: w, H: h, Cells: make([]complex128, w*h)}
	for place := range out.Cells {
		out.Cells[place] = v
	}
	return out
}

// with: the ghost, but for one cell.
func with(h api.Ghost, place int, v complex128) api.Ghost {
	cells := slices.Clone(h.Cells)
	cells[place] = v
	return api.Ghost{W: h.W, H: h.H, Cells: cells}
}

// ghosts: sound ones of that size, whether they are seen or not: noughts, ordinary cells, and parts of 65536 either way.
func ghosts(w, h int) []api.Ghost {
	d := sample.Dice(w*100 + h)
	out := []api.Ghost{filled(w, h, 0), filled(w, h, complex(api.MaxWorth, -api.MaxWorth)), filled(w, h, complex(-api.MaxWorth, api.MaxWorth)), with(filled(w, h, 0), w*h-1, -3i)}
	for _, part := range []func() float64{d.UpTo(1), d.UpTo(7), d.UpTo(api.MaxWorth)} {
		out = append(out, api.Ghost{W: w, H: h, Cells: d.List(w*h, part)})
	}
	return out
}

// sizes: of a ghost, with the edges in either part.
func sizes() [][2]int {
	return [][2]int{{1, 1}, {1, 2}, {2, 1}, {2, 2}, {3, 2}, {2, 5}, {1, 64}, {64, 1}, {63, 64}, {64, 63}, {64, 64}, {7, 7}, {17, 9}}
}

// wrongSizes: sides that are none, and cells that are too many or too few.
func wrongSizes() []api.Ghost {
	of := func(w, h, cells int) api.Ghost { return api.Ghost{W: w, H: h, Cells: make([]complex128, cells)} }
	out := []api.Ghost{
		{}, {W: 1}, {H: 1}, {W: 1, H: 1}, {W: 64, H: 64}, of(0, 0, 1), of(-1, -1, 1), of(-2, -2, 4), of(-1, -4, 4), of(-64, -64, 4096), of(2, 3, 4), of(2, 3, 9),
		of(1<<32, 1<<32, 0), of(1<<62, 4, 0), of(4, 1<<62, 0), of(1<<63-1, 1<<63-1, 1), of(-1<<63, 2, 0), of(1<<32+1, 1<<32+1, 1<<10), of(1<<33, 1<<31, 0), of(32, 128, 4096), of(128, 32, 4096), of(4096, 1, 4096), of(1, 4096, 4096),
		// Room for the missing cells is no cell.
		{W: 2, H: 2, Cells: make([]complex128, 3, 4)}, {W: 1, H: 1, Cells: make([]complex128, 0, 1)},
	}
	for _, n := range sample.NoSides() {
		for _, side := range []int{1, 2, 64} {
			cells := 0
			if n > 0 && n < 5000 {
				cells = n * side
			}
			out = append(out, of(n, side, cells), of(side, n, cells), of(n, side, side), of(side, n, side), of(n, n, 1), of(n, n, 0), of(n, side, 0))
		}
	}
	for _, s := range sizes() {
		w, h := s[0], s[1]
		out = append(out, of(w, h, w*h-1), of(w, h, w*h+1), of(w, h, 0), of(w, h, 2*w*h), of(w, h, (w+1)*h), of(w, h+1, w*h), of(w+1, h, w*h), of(-w, h, w*h), of(w, -h, w*h), of(-w, -h, w*h))
	}
	return out
}

// noGhosts: those that aren't sound, with cells that aren't 0 among them.
func noGhosts() []api.Ghost {
	out := wrongSizes()
	for k, h := range wrongSizes() {
		if k%3 == 0 {
			other := api.Ghost{W: h.W, H: h.H, Cells: slices.Clone(h.Cells)}
			for place := range other.Cells {
				other.Cells[place] = 3 - 1i
			}
			out = append(out, other)
		}
	}
	for k, v := range sample.NoWorths() {
		s := sizes()[k%6]
		h := ghosts(s[0], s[1])[k%7]
		out = append(out, with(h, 0, v), with(h, len(h.Cells)/2, v), with(h, len(h.Cells)-1, v))
	}
	for _, v := range []complex128{complex(sample.MinusNought(), 0), complex(0, sample.MinusNought()), complex(0, math.NaN()), 0.5i, api.MaxWorth + 1, complex(0, -api.MaxWorth-1), complex(math.Inf(-1), 0)} {
		for _, place := range []int{0, 5, 64*31 + 5, 64*64 - 1} {
			out = append(out, with(filled(64, 64, 1), place, v))
		}
	}
	return out
}

// of: the ghost of directions that have one.
func of(t *testing.T, dirs ...api.Dir) api.Ghost {
	t.Helper()
	h, e := ghost.Make(dirs)
	return right(t, h, e)
}

// right: what was answered without an error.
func right[T any](t *testing.T, got T, e api.Errno) T {
	t.Helper()
	if e != api.OK {
		t.Fatalf("error %d", e)
	}
	return got
}

// refused: with that error, and nothing beside it.
func refused(t *testing.T, name string, empty bool, e, want api.Errno) {
	t.Helper()
	if e != want || !empty {
		t.Fatalf("%s: error %d, not %d, or something beside it", name, e, want)
	}
}

func noGhost(h api.Ghost) bool { return h.W == 0 && h.H == 0 && len(h.Cells) == 0 }

func noGrid(g api.Grid) bool { return g.N == 0 && len(g.Cells) == 0 }

// sameGhost: of one size, and with the same bits in each cell.
func sameGhost(a, b api.Ghost) bool {
	return a.W == b.W && a.H == b.H && slices.Equal(sample.Bits(a.Cells), sample.Bits(b.Cells))
}

// checkGhost: is that the ghost, bit by bit?
func checkGhost(t *testing.T, dirs []api.Dir, got, want api.Ghost) {
	t.Helper()
	if !sameGhost(got, want) {
		t.Fatalf("%v: %d by %d, %v, not %d by %d, %v", dirs, got.W, got.H, got.Cells, want.W, want.H, want.Cells)
	}
}

// checkGrid: are those the cells, bit by bit?
func checkGrid(t *testing.T, what string, got, want api.Grid) {
	t.Helper()
	if got.N != want.N || len(got.Cells) != len(want.Cells) {
		t.Fatalf("%s: side %d with %d cells, not %d with %d", what, got.N, len(got.Cells), want.N, len(want.Cells))
	}
	for place := range want.Cells {
		if !sample.Agree(got.Cells[place], want.Cells[place]) {
			t.Fatalf("%s, cell %d: %s, not %s", what, place, cx.Text(got.Cells[place]), cx.Text(want.Cells[place]))
		}
	}
}
