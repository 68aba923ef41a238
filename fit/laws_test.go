package fit_test

import (
	"math"
	"math/big"
	"slices"
	"testing"

	"penumbra/api"
	"penumbra/ray"
	"penumbra/sample"
)

// P18.2: from a sound grid on, with its own projections, no round is done, and the field is the grid, bit by bit.
func TestWhatFitsStays(t *testing.T) {
	lists := append(sample.Along(), sample.Wheel()[100:164])
	for _, n := range sample.ManySides() {
		for i, g := range sample.Grids(n) {
			for j, dirs := range lists {
				if n > 16 && (i+j)%5 != 0 {
					continue
				}
				projs := sample.Seen(g, dirs).Projs
				for _, p := range rests(t, g, projs) {
					for bin, v := range p.Bins {
						if v != 0 {
							t.Fatalf("%s, along %v: %v is left of bin %d", about(n, projs), p.Dir, v, bin)
						}
					}
				}
				for _, c := range [][2]int{{0, 0}, {1, 0}, {1, 30}, {2, 5}, {64, 0}, {64, 30}} {
					checkFit(t, aboutRun(n, projs, c[0], c[1]), run(t, g, projs, c[0], c[1]), api.Fit{Field: g, Sizes: []float64{0}})
				}
			}
		}
	}
}

// P18.2: likewise with those that rays tell.
func TestWhatRaysTellStays(t *testing.T) {
	for n := 1; n <= 16; n++ {
		for _, g := range sample.Grids(n) {
			s, e := ray.All(g, sample.Dirs(), 3)
			if e != api.OK {
				t.Fatal(e)
			}
			checkFit(t, about(n, s.Projs), run(t, g, s.Projs, 64, 0), api.Fit{Field: g, Sizes: []float64{0}})
		}
	}
}

// P18.2: it is the projections that hold a run up: with one bin, or one cell, that is another, a round is done.
func TestWhatDoesNotFit(t *testing.T) {
	for n := 1; n <= 16; n++ {
		g := sample.Numbered(n)
		s := sample.Seen(g, sample.Dirs()[:5])
		for i, p := range s.Projs {
			bin := (n * i) % len(p.Bins)
			other := sample.WithBin(s, i, bin, p.Bins[bin]+1i).Projs
			if got := run(t, g, other, 1, 0); len(got.Sizes) != 2 || got.Sizes[0] != 1 {
				t.Errorf("%s: sizes %v", about(n, other), got.Sizes)
			}
		}
		place := n * n / 2
		if got := run(t, sample.With(g, place, g.Cells[place]-3), s.Projs, 1, 30); len(got.Sizes) != 2 || got.Sizes[0] != 3 {
			t.Errorf("%s: sizes %v", about(n, s.Projs), got.Sizes)
		}
	}
}

// joined: two runs, the second one from where the first one ended, as one.
func joined(t *testing.T, start api.Grid, projs []api.Proj, first, second, down int) api.Fit {
	t.Helper()
	one := run(t, start, projs, first, down)
	two := run(t, one.Field, projs, second, down)
	checkSizes(t, "where the first one ended", two.Sizes[:1], one.Sizes[len(one.Sizes)-1:])
	return api.Fit{Field: two.Field, Sizes: slices.Concat(one.Sizes, two.Sizes[1:])}
}

// P18.3: every way to part up to 6 rounds, of bins and cells of all kinds of numbers.
func TestRoundByRound(t *testing.T) {
	d := sample.Dice(186)
	downs := []int{0, 1, 5, 30}
	for _, n := range []int{1, 2, 3, 4, 8, 16} {
		for i, dirs := range sample.Along() {
			for j := range d.Parts() {
				if n > 4 && (i+j)%4 != 0 {
					continue
				}
				part, down := d.Parts()[j], downs[(i+j)%4]
				f, projs := field(n, part), sample.Projs(n, dirs, part).Projs
				for rounds := range 7 {
					whole := run(t, f, projs, rounds, down)
					for first := range rounds + 1 {
						checkFit(t, aboutRun(n, projs, rounds, down), joined(t, f, projs, first, rounds-first, down), whole)
					}
				}
			}
		}
	}
}

// P18.3: likewise where a run ends for the rests' sake, and one by one up to the most.
func TestRoundByRoundToTheEnd(t *testing.T) {
	for first := range 65 {
		checkFit(t, "halves", joined(t, square(1, 0), eight(), first, 64-first, 1), run(t, square(1, 0), eight(), 64, 1))
	}
	projs := sample.Seen(sample.Numbered(4), []api.Dir{{P: 1}}).Projs
	for rounds := range 7 {
		for first := range rounds + 1 {
			checkFit(t, "rows", joined(t, sample.Filled(4, 1), projs, first, rounds-first, 2), run(t, sample.Filled(4, 1), projs, rounds, 2))
		}
	}
	d := sample.Dice(187)
	f, projs := field(13, d.Near), sample.Projs(13, sample.Dirs(), d.Near).Projs
	at := f
	for rounds := 1; rounds <= 64; rounds++ {
		at = run(t, at, projs, 1, 5).Field
		checkList(t, aboutRun(13, projs, rounds, 5), at.Cells, run(t, f, projs, rounds, 5).Field.Cells)
	}
}

// squares: those of the rests' parts added up, exactly: behind three rounds of down 5 each part is a multiple of 2 to the -15.
func squares(t *testing.T, projs []api.Proj) *big.Int {
	t.Helper()
	sum := new(big.Int)
	for _, p := range projs {
		for _, v := range p.Bins {
			for _, x := range []float64{real(v), imag(v)} {
				whole := math.Ldexp(x, 15)
				if whole != math.Trunc(whole) || math.Abs(whole) > 1<<52 {
					t.Fatalf("a rest of %v", x)
				}
				part := big.NewInt(int64(whole))
				sum.Add(sum, part.Mul(part, part))
			}
		}
	}
	return sum
}

// P18.4: for sides up to 8, at most 4 projections, whole bins and cells with parts of at most 128 and down 5 the sum of the squares never rises, in none of three rounds.
func TestNotWorse(t *testing.T) {
	d := sample.Dice(188)
	ends := func() float64 { return float64(128 - 256*int(d.Word()%2)) }
	all := func(x float64) func() float64 { return func() float64 { return x } }
	parts := []func() float64{d.UpTo(128), d.UpTo(2), ends, all(128), all(-128), all(0), func() float64 { return 128 * float64(int(d.Word()%3)-1) }}
	fell := 0
	for n := 1; n <= 8; n++ {
		for _, dirs := range four(&d) {
			for i, bins := range parts {
				for j, cells := range parts {
					if (n+i+j)%2 == 0 && len(dirs) < 4 {
						continue
					}
					f, projs := field(n, cells), sample.Projs(n, dirs, bins).Projs
					before := squares(t, rests(t, f, projs))
					for rounds := 1; rounds <= 3; rounds++ {
						after := squares(t, rests(t, run(t, f, projs, rounds, 5).Field, projs))
						if after.Cmp(before) > 0 {
							t.Fatalf("%s: the squares rise from %v to %v", aboutRun(n, projs, rounds, 5), before, after)
						}
						if after.Cmp(before) < 0 {
							fell++
						}
						before = after
					}
				}
			}
		}
	}
	if fell < 1000 {
		t.Errorf("they fall only %d times", fell)
	}
}

// four: lists of at most 4 directions, also of one that stands 4 times: along rows and columns lines are longest.
func four(d *sample.Dice) [][]api.Dir {
	row, column, falling, rising := api.Dir{P: 1}, api.Dir{Q: 1}, api.Dir{P: 1, Q: 1}, api.Dir{P: -1, Q: 1}
	out := [][]api.Dir{nil, {row}, {column, column}, {row, row, row}, {row, row, row, row}, {column, column, column, column}, {falling, falling, falling, falling}, {row, column, falling, rising}, {row, row, column, column}, {rising, row, rising, row}}
	for many := 1; many <= 4; many++ {
		for range 4 {
			out = append(out, d.Picked(sample.Short(), many), d.Picked(sample.Wheel(), many))
		}
	}
	return out
}
