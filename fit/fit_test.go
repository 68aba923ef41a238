package fit_test

import (
	"math"
	"testing"

	"penumbra/api"
	"penumbra/fit"
	"penumbra/sample"
)

// P18.1: the chapter's examples, and others that are written out.
func TestExamples(t *testing.T) {
	nought := square(1, 0)
	both := []api.Proj{sample.Proj(1, 0, 7, 3), sample.Proj(0, 1, 4, 6)}
	for _, c := range []struct {
		start        api.Grid
		projs        []api.Proj
		rounds, down int
		cells        []complex128
		sizes        []float64
	}{
		{nought, eight(), 0, 1, []complex128{0}, []float64{8}},
		{nought, eight(), 1, 1, []complex128{4}, []float64{8, 4}},
		{nought, eight(), 2, 1, []complex128{6}, []float64{8, 4, 2}},
		{nought, eight(), 3, 1, []complex128{7}, []float64{8, 4, 2, 1}},
		{nought, eight(), 1, 0, []complex128{8}, []float64{8, 0}},
		{nought, eight(), 2, 0, []complex128{8}, []float64{8, 0}},
		{nought, eight(), 64, 0, []complex128{8}, []float64{8, 0}},
		{nought, eight(), 1, 30, []complex128{0x1p-27}, []float64{8, 8 - 0x1p-27}},
		{nought, nil, 64, 0, []complex128{0}, []float64{0}},
		{square(1, 3i), nil, 5, 5, []complex128{3i}, []float64{0}},
		{square(1, 3+1i), eight(), 0, 0, []complex128{3 + 1i}, []float64{5}},
		{square(1, 3+9i), eight(), 1, 1, []complex128{5.5 + 4.5i}, []float64{9, 4.5}},
		// Two along one direction: the rests are added, so that without a power the field leaps to and fro.
		{nought, append(eight(), eight()...), 3, 0, []complex128{16}, []float64{8, 8, 8, 8}},
		{nought, append(eight(), eight()...), 3, 1, []complex128{8}, []float64{8, 0}},
		{nought, []api.Proj{sample.Proj(1, 0, 8), sample.Proj(1, 0, 4)}, 2, 1, []complex128{6}, []float64{8, 2, 2}},
		{square(2, 1, 2, 3, 4), both, 64, 0, []complex128{1, 2, 3, 4}, []float64{0}},
		{square(2, 0, 0, 0, 0), both, 0, 1, []complex128{0, 0, 0, 0}, []float64{7}},
		{square(2, 0, 0, 0, 0), both, 1, 1, []complex128{3.5, 4.5, 5.5, 6.5}, []float64{7, 5}},
		{square(2, 0, 0, 0, 0), both, 1, 0, []complex128{7, 9, 11, 13}, []float64{7, 17}},
		{square(2, 0, 0, 0, 0), []api.Proj{sample.Proj(1, 1, 8, 2i, -8)}, 1, 1, []complex128{1i, -4, 4, 1i}, []float64{8, 4}},
		{square(2, 0, 0, 0, 0), []api.Proj{sample.Proj(-2, 1, 1, 2, 3, 4)}, 9, 0, []complex128{1, 2, 3, 4}, []float64{4, 0}},
	} {
		got := run(t, c.start, c.projs, c.rounds, c.down)
		checkFit(t, aboutRun(c.start.N, c.projs, c.rounds, c.down), got, api.Fit{Field: square(c.start.N, c.cells...), Sizes: c.sizes})
	}
	got := rests(t, square(2, 1, 2i, 3, 4), both)
	checkProjs(t, "rests", got, []api.Proj{sample.Proj(1, 0, 0, 2-2i), sample.Proj(0, 1, 0, 2-2i)})
}

// P18.1: the order of the sums, what they begin with, and what is taken from what, in numbers that show them.
func TestOrder(t *testing.T) {
	inf, nan, minus := math.Inf(1), math.NaN(), sample.MinusNought()
	// In a field of side 2 the second cell and the third one are the line number 1 along (-1, 1), the upper row is the line number 1 along (1, 0).
	for _, c := range []struct {
		cells [4]complex128
		proj  api.Proj
		want  []complex128
	}{
		{[4]complex128{}, sample.Proj(0, 1, complex(minus, minus), complex(0, minus)), []complex128{complex(minus, minus), complex(0, minus)}},
		{[4]complex128{complex(minus, minus), 0, complex(minus, minus), 0}, sample.Proj(0, 1, complex(minus, minus), 0), []complex128{complex(minus, minus), 0}},
		{[4]complex128{1, 2, 3, 4}, sample.Proj(-1, 1, 0, 0, 0), []complex128{complex(-1, 0), complex(-5, 0), complex(-4, 0)}},
		{[4]complex128{0x1p53, 1, 1, 0x1p53}, sample.Proj(1, 0, 0, 0), []complex128{complex(-0x1p53, 0), complex(-0x1p53, 0)}},
		{[4]complex128{0x1p60, 0, -0x1p60, 0}, sample.Proj(0, 1, 1, 0), []complex128{1, 0}},
		{[4]complex128{complex(0, inf), 0, complex(2, -inf), 0}, sample.Proj(0, 1, 1, 0), []complex128{complex(-1, nan), 0}},
		{[4]complex128{complex(inf, 0), 0, 0, 0}, sample.Proj(0, 1, complex(inf, 1), complex(inf, -inf)), []complex128{complex(nan, 1), complex(inf, -inf)}},
		{[4]complex128{complex(math.MaxFloat64, 0), 0, complex(math.MaxFloat64, 0), 0}, sample.Proj(0, 1, 0, 0), []complex128{complex(-inf, 0), 0}},
		{[4]complex128{complex(math.MaxFloat64, 0), 0, 0, 0}, sample.Proj(0, 1, complex(-math.MaxFloat64, 0), 0), []complex128{complex(-inf, 0), 0}},
		{[4]complex128{complex(nan, 1), 0, 0, 0}, sample.Proj(1, 0, 0, 5), []complex128{0, complex(nan, -1)}},
	} {
		got := rests(t, square(2, c.cells[:]...), []api.Proj{c.proj})
		checkList(t, about(2, []api.Proj{c.proj}), got[0].Bins, c.want)
	}
	// Three cells on a line, row by row: 2^53 and 1 twice is 2^53, but 1 twice and 2^53 is more.
	for _, c := range []struct {
		diagonal [3]complex128
		want     complex128
	}{
		{[3]complex128{0x1p53, 1, 1}, -0x1p53},
		{[3]complex128{1, 1, 0x1p53}, -0x1p53 - 2},
		{[3]complex128{1, 0x1p53, 1}, -0x1p53},
		{[3]complex128{0x1p60, -0x1p60, 1}, -1},
		{[3]complex128{1, 0x1p60, -0x1p60}, 0},
	} {
		v := c.diagonal
		column := square(3, v[0], 0, 0, v[1], 0, 0, v[2], 0, 0)
		row := square(3, 0, 0, 0, v[0], v[1], v[2], 0, 0, 0)
		falling := square(3, v[0], 0, 0, 0, v[1], 0, 0, 0, v[2])
		rising := square(3, 0, 0, v[0], 0, v[1], 0, v[2], 0, 0)
		for _, p := range []struct {
			f    api.Grid
			proj api.Proj
			bin  int
		}{
			{column, sample.Blank(3, api.Dir{Q: 1}), 0},
			{row, sample.Blank(3, api.Dir{P: 1}), 1},
			{falling, sample.Blank(3, api.Dir{P: 1, Q: 1}), 2},
			{rising, sample.Blank(3, api.Dir{P: -1, Q: 1}), 2},
		} {
			p.proj.Bins[p.bin] = 0
			got := rests(t, p.f, []api.Proj{p.proj})[0].Bins[p.bin]
			if got != c.want {
				t.Errorf("along %v, %v: %v, not %v", p.proj.Dir, v, got, c.want)
			}
		}
	}
}

// P18.1: what is laid back is scaled and then added, each step rounded by itself.
func TestScaledThenAdded(t *testing.T) {
	tiny, minus := 0x1p-1074, sample.MinusNought()
	for _, c := range []struct {
		start complex128
		bins  []complex128
		down  int
		want  complex128
	}{
		{0, []complex128{complex(tiny, 3*tiny)}, 1, complex(0, 2*tiny)},
		{0, []complex128{complex(5*tiny, -tiny)}, 1, complex(2*tiny, 0)},
		{0, []complex128{complex(tiny, 0), complex(tiny, 0)}, 1, complex(tiny, 0)},
		{0, []complex128{complex(0x1p-1044, 0), complex(0, 0x1p-1045)}, 30, complex(tiny, 0)},
		{complex(minus, minus), []complex128{complex(minus, minus)}, 0, complex(minus, minus)},
		{complex(minus, minus), []complex128{complex(-1, 0)}, 0, complex(-1, 0)},
		{0x1p53, []complex128{0x1p53 + 2}, 1, 0x1p53},
		{0x1p53, []complex128{0x1p53 + 2}, 0, 0x1p53 + 2},
		{0, []complex128{complex(math.MaxFloat64, 0), complex(math.MaxFloat64, 0)}, 1, complex(math.Inf(1), 0)},
		{0, []complex128{0x1p60, 1, -0x1p60}, 0, 0},
		{0, []complex128{0x1p60, -0x1p60, 1}, 0, 1},
	} {
		var projs []api.Proj
		for i, v := range c.bins {
			projs = append(projs, api.Proj{Dir: sample.Dirs()[i%2], Bins: []complex128{v}})
		}
		got := run(t, square(1, c.start), projs, 1, c.down)
		checkFit(t, aboutRun(1, projs, 1, c.down), got, fitted(square(1, c.start), projs, 1, c.down))
		checkList(t, aboutRun(1, projs, 1, c.down), got.Field.Cells, []complex128{c.want})
	}
}

// P18.1: fields of every side, with lists of every length, with bins and cells of all kinds of numbers, bit by bit.
func TestByTheRules(t *testing.T) {
	d := sample.Dice(181)
	downs := []int{0, 1, 5, 30}
	for _, n := range sample.ManySides() {
		for i, dirs := range sample.Along() {
			for j, part := range d.Parts() {
				f, projs := field(n, d.Parts()[(i+j)%12]), sample.Projs(n, dirs, part).Projs
				checkProjs(t, about(n, projs), rests(t, f, projs), left(f, projs))
				if n > 16 && (n+i+j)%7 != 0 {
					continue
				}
				rounds, down := 1+(n+j)%3, downs[(n+i+j)%4]
				name := aboutRun(n, projs, rounds, down)
				checkFit(t, name, run(t, f, projs, rounds, down), fitted(f, projs, rounds, down))
				checkFit(t, name, run(t, f, projs, 0, down), fitted(f, projs, 0, down))
			}
		}
	}
}

// P18.1: as many rounds as there are at the most, by every power.
func TestMostRounds(t *testing.T) {
	d := sample.Dice(182)
	for down := range 31 {
		for i, n := range []int{1, 2, 3, 8, 13} {
			for j, dirs := range sample.Along() {
				if (down+i+j)%3 != 0 {
					continue
				}
				part := d.Parts()[(down+i+j)%12]
				f, projs := field(n, part), sample.Projs(n, dirs, part).Projs
				checkFit(t, aboutRun(n, projs, 64, down), run(t, f, projs, 64, down), fitted(f, projs, 64, down))
			}
		}
	}
	// All at its most at once: the side, the steps, how many, and the rounds.
	f, projs := field(64, d.Near), sample.Projs(64, sample.Wheel()[100:164], d.Near).Projs
	for _, down := range []int{0, 12, 30} {
		checkFit(t, aboutRun(64, projs, 64, down), run(t, f, projs, 64, down), fitted(f, projs, 64, down))
	}
}

// P18.1: along every direction there is.
func TestEveryDirection(t *testing.T) {
	d := sample.Dice(183)
	for _, along := range sample.Wheel() {
		for _, n := range []int{1, 2, 3, 7, 33} {
			f, projs := field(n, d.Near), sample.Projs(n, []api.Dir{along}, d.Near).Projs
			checkProjs(t, about(n, projs), rests(t, f, projs), left(f, projs))
			checkFit(t, about(n, projs), run(t, f, projs, 2, 5), fitted(f, projs, 2, 5))
		}
	}
}

// P18.1: a run ends ahead of a round if the rests are 0 in greatness, noughts with a sign too, and not for a NaN's sake; there is one size more than rounds done.
func TestWhereItEnds(t *testing.T) {
	minus := sample.MinusNought()
	for _, n := range []int{1, 2, 8, 64} {
		for _, v := range []complex128{0, complex(minus, minus), complex(0, minus)} {
			projs := []api.Proj{sample.Blank(n, api.Dir{P: 1}), sample.Blank(n, api.Dir{P: -1, Q: 2})}
			for _, p := range projs {
				for bin := range p.Bins {
					p.Bins[bin] = v
				}
			}
			start := sample.Filled(n, complex(minus, 0))
			for _, rounds := range []int{0, 1, 2, 64} {
				checkFit(t, aboutRun(n, projs, rounds, 0), run(t, start, projs, rounds, 0), api.Fit{Field: start, Sizes: []float64{0}})
			}
		}
		for _, v := range []complex128{complex(math.NaN(), 0), complex(0, math.NaN()), complex(math.Inf(1), 0)} {
			projs := []api.Proj{sample.Blank(n, api.Dir{Q: 1})}
			projs[0].Bins[n-1] = v
			for _, rounds := range []int{0, 1, 2, 64} {
				if got := run(t, sample.Filled(n, 0), projs, rounds, 3); len(got.Sizes) != rounds+1 {
					t.Errorf("%s: %d sizes", aboutRun(n, projs, rounds, 3), len(got.Sizes))
				}
			}
		}
		// Where a row has as many cells as the power tells, one round shares a row's rest out among them, and nothing is left.
		rows := []api.Proj{sample.Blank(n, api.Dir{P: 1})}
		power := map[int]int{1: 0, 2: 1, 8: 3, 64: 6}[n]
		for _, rounds := range []int{1, 2, 64} {
			if got := run(t, sample.Filled(n, 0), rows, rounds, power); len(got.Sizes) != 2 || got.Sizes[1] != 0 {
				t.Errorf("%s: sizes %v", aboutRun(n, rows, rounds, power), got.Sizes)
			}
		}
	}
	// Where each round takes half away there is something left till the half is lost in rounding.
	for rounds := range 65 {
		if got := run(t, square(1, 0), eight(), rounds, 1); len(got.Sizes) != min(rounds, 54)+1 {
			t.Errorf("%d rounds: %d sizes", rounds, len(got.Sizes))
		}
	}
}

// P18.1: how great bins are, of any list: directions, sides and how many there are don't matter.
func TestGreat(t *testing.T) {
	inf, nan, minus := math.Inf(1), math.NaN(), sample.MinusNought()
	other := math.Float64frombits(0xfff0000000000001)
	for _, c := range []struct {
		projs []api.Proj
		want  float64
	}{
		{nil, 0},
		{[]api.Proj{}, 0},
		{[]api.Proj{{}}, 0},
		{make([]api.Proj, 70000), 0},
		{[]api.Proj{sample.Proj(1, 0, 0)}, 0},
		{[]api.Proj{sample.Proj(1, 0, complex(minus, minus))}, 0},
		{[]api.Proj{sample.Proj(9, -9, 3-4i)}, 4},
		{[]api.Proj{sample.Proj(9, -9, 3-4i), {}, sample.Proj(0, 0, -7, 5i)}, 7},
		{[]api.Proj{sample.Proj(1, 0, 1, 2, 3), sample.Proj(1, 0, 2, -1)}, 3},
		{[]api.Proj{sample.Proj(1, 0, 1), sample.Proj(0, 1, complex(0x1p-1074, -0x1p-1074))}, 1},
		{[]api.Proj{sample.Proj(1, 0, 0), sample.Proj(0, 1, complex(0, -0x1p-1074))}, 0x1p-1074},
		{[]api.Proj{sample.Proj(1, 0, complex(1, -math.MaxFloat64), 5)}, math.MaxFloat64},
		{[]api.Proj{sample.Proj(1, 0, complex(1, -inf), 5), sample.Proj(1, 0, 9)}, inf},
		{[]api.Proj{sample.Proj(1, 0, complex(1, nan), 5), sample.Proj(1, 0, 9)}, nan},
		{[]api.Proj{sample.Proj(1, 0, 5, complex(1, nan)), sample.Proj(1, 0, complex(inf, inf))}, nan},
		{[]api.Proj{sample.Proj(1, 0, complex(inf, inf)), sample.Proj(1, 0, complex(other, 0))}, nan},
		{[]api.Proj{sample.Proj(1, 0, complex(inf, nan))}, nan},
		{[]api.Proj{sample.Proj(1, 0, complex(nan, inf)), sample.Proj(1, 0, 0)}, nan},
	} {
		if got := fit.Great(c.projs); !sample.AgreePart(got, c.want) {
			t.Errorf("%.3v: %v, not %v", c.projs[:min(len(c.projs), 4)], got, c.want)
		}
	}
}

// P18.1: likewise of lists of all kinds of numbers, the greatest one and a NaN wherever they stand.
func TestGreatByTheRules(t *testing.T) {
	d := sample.Dice(184)
	for _, n := range []int{1, 2, 5, 16} {
		for _, dirs := range sample.Along() {
			for _, part := range d.Parts() {
				projs := sample.Projs(n, dirs, part).Projs
				if got, want := fit.Great(projs), greatest(projs); !sample.AgreePart(got, want) {
					t.Fatalf("%s: %v, not %v", about(n, projs), got, want)
				}
			}
		}
	}
	given := sample.Blanks(5, sample.Dirs()[:6])
	for place, p := range given.Projs {
		for bin := range p.Bins {
			for _, x := range []float64{1 << 40, math.Inf(1), math.NaN()} {
				for _, v := range []complex128{complex(-x, 1), complex(2, x)} {
					if got := fit.Great(sample.WithBin(given, place, bin, v).Projs); !sample.AgreePart(got, x) {
						t.Fatalf("%v in bin %d of projection %d: %v", v, bin, place, got)
					}
				}
			}
		}
	}
}
