package back_test

import (
	"math"
	"testing"

	"penumbra/api"
	"penumbra/back"
	"penumbra/dir"
	"penumbra/ray"
	"penumbra/sample"
)

// P17.1: the chapter's examples, and others that are written out.
func TestExamples(t *testing.T) {
	for _, c := range []struct {
		n     int
		projs []api.Proj
		want  []complex128
	}{
		{2, example(), []complex128{7, 9, 11, 13}},
		{1, nil, []complex128{0}},
		{2, nil, make([]complex128, 4)},
		{64, []api.Proj{}, make([]complex128, 64*64)},
		{1, []api.Proj{sample.Proj(1, 0, 5-2i), sample.Proj(16, 15, 1), sample.Proj(0, 1, 2i)}, []complex128{6}},
		{2, []api.Proj{sample.Proj(1, 1, 1, 2, 3)}, []complex128{2, 3, 1, 2}},
		{2, []api.Proj{sample.Proj(-1, 1, 1, 2, 3)}, []complex128{1, 2, 2, 3}},
		{2, []api.Proj{sample.Proj(1, 1, 1, 2, 3), sample.Proj(1, 1, 10i, 20i, 30i)}, []complex128{2 + 20i, 3 + 30i, 1 + 10i, 2 + 20i}},
		{2, []api.Proj{sample.Proj(-2, 1, 1, 2, 3, 4)}, []complex128{1, 2, 3, 4}},
		{2, []api.Proj{sample.Proj(2, 1, 3, 4, 1, 2)}, []complex128{1, 2, 3, 4}},
		{3, []api.Proj{sample.Proj(1, 2, 1, 2, 3, 4, 5, 6, 7), sample.Proj(1, 0, 100, 200, 300)}, []complex128{303, 305, 307, 202, 204, 206, 101, 103, 105}},
	} {
		checkCells(t, about(c.n, c.projs), all(t, c.n, c.projs).Cells, c.want)
	}
	list, e := back.Region(2, example(), cell(1, 0), cell(1, 1))
	checkCells(t, "the right column", right(t, list, e), []complex128{9, 13})
	list, e = back.Region(2, example(), cell(0, 1), cell(1, 1))
	checkCells(t, "the lower row", right(t, list, e), []complex128{11, 13})
	noTiles(t, 2, example(), 0, 1, api.ErrArg)
	noTiles(t, 2, example(), 1, 17, api.ErrArg)
}

// P17.1: the order of the sums, and what they begin with, in numbers that show them.
func TestOrder(t *testing.T) {
	inf, nan, minus := math.Inf(1), math.NaN(), sample.MinusNought()
	for _, c := range []struct {
		bins []complex128
		want complex128
	}{
		{[]complex128{complex(minus, minus)}, 0},
		{[]complex128{complex(minus, minus), complex(minus, 0)}, 0},
		{[]complex128{0x1p53, 1, 1}, 0x1p53},
		{[]complex128{1, 1, 0x1p53}, 0x1p53 + 2},
		{[]complex128{1, 0x1p53, 1}, 0x1p53},
		{[]complex128{0x1p60, 1, -0x1p60}, 0},
		{[]complex128{0x1p60, -0x1p60, 1}, 1},
		{[]complex128{1, 0x1p60, -0x1p60}, 0},
		{[]complex128{complex(0, 0x1p60), complex(1, -0x1p60), 1i}, 1 + 1i},
		{[]complex128{complex(math.MaxFloat64, 0), complex(math.MaxFloat64, 0), complex(-math.MaxFloat64, 0)}, complex(inf, 0)},
		{[]complex128{complex(math.MaxFloat64, 0), complex(-math.MaxFloat64, 0), complex(math.MaxFloat64, 0)}, complex(math.MaxFloat64, 0)},
		{[]complex128{complex(inf, 1), complex(2, -inf)}, complex(inf, -inf)},
		{[]complex128{complex(inf, 1), complex(-inf, 1)}, complex(nan, 2)},
		{[]complex128{complex(nan, minus), 3}, complex(nan, 0)},
		{[]complex128{0x1p-1074, 0x1p-1074, complex(0, -0x1p-1074)}, complex(0x1p-1073, -0x1p-1074)},
	} {
		var projs []api.Proj
		for i, v := range c.bins {
			projs = append(projs, api.Proj{Dir: sample.Dirs()[i%2], Bins: []complex128{v}})
		}
		name := about(1, projs)
		checkCells(t, name, all(t, 1, projs).Cells, []complex128{c.want})
		f, e := back.Tiles(1, projs, 1, 2)
		checkCells(t, "Tiles, "+name, right(t, f, e).Cells, []complex128{c.want})
		list, e := back.Region(1, projs, cell(0, 0), cell(0, 0))
		checkCells(t, "Region, "+name, right(t, list, e), []complex128{c.want})
	}
}

// P17.1: fields of every side, from lists of every length, with bins of all kinds of numbers, bit by bit.
func TestAllByItsRules(t *testing.T) {
	d := sample.Dice(171)
	for _, n := range sample.ManySides() {
		for _, dirs := range sample.Along() {
			for _, part := range d.Parts() {
				given := projs(n, dirs, part)
				checkField(t, about(n, given), all(t, n, given), sample.Laid(n, given))
			}
		}
	}
}

// P17.1: along every direction there is.
func TestEveryDirection(t *testing.T) {
	d := sample.Dice(172)
	for _, along := range sample.Wheel() {
		for _, n := range []int{1, 2, 3, 7, 64} {
			given := projs(n, []api.Dir{along}, d.AnyBits)
			checkField(t, about(n, given), all(t, n, given), sample.Laid(n, given))
		}
	}
}

// P17.1: the cells of a line have its bin, and bins on which no cell lies show nowhere.
func TestByLines(t *testing.T) {
	for _, n := range []int{1, 2, 5, 16} {
		for _, along := range append(sample.Dirs(), sample.Wheel()[n:n+20]...) {
			p := sample.Blank(n, along)
			f := all(t, n, []api.Proj{p, p})
			met := 0
			for bin, v := range p.Bins {
				cells, e := dir.Line(n, along, bin)
				met += len(right(t, cells, e))
				for _, c := range cells {
					if f.Cells[c.Y*n+c.X] != v+v {
						t.Fatalf("side %d, along %v, %v: %v, not twice %v", n, along, c, f.Cells[c.Y*n+c.X], v)
					}
				}
			}
			if met != n*n {
				t.Fatalf("side %d, along %v: %d cells lie on lines", n, along, met)
			}
		}
	}
}

// P17.1: whole bins are added up exactly, as those that rays spread.
func TestAgainstRays(t *testing.T) {
	d := sample.Dice(173)
	for _, n := range sample.Sides() {
		given := projs(n, sample.Dirs(), d.UpTo(api.MaxBin))
		sums := make([][2]int64, n*n)
		for _, p := range given {
			f, e := ray.Spread(n, p)
			for place, v := range right(t, f, e).Cells {
				sums[place][0] += int64(real(v))
				sums[place][1] += int64(imag(v))
			}
		}
		want := sample.Filled(n, 0)
		for place, sum := range sums {
			want.Cells[place] = complex(float64(sum[0]), float64(sum[1]))
		}
		checkField(t, about(n, given), all(t, n, given), want)
	}
}

// P17.1: a side that is none is told ahead of too many projections, these ahead of faults in one of them, all of them ahead of the call's own.
func TestFaultsInTheirOrder(t *testing.T) {
	wheel := sample.Wheel()
	none, empty := sample.Proj(2, 2, 1, 2, 3), api.Proj{Dir: wheel[5]}
	for _, n := range sample.NoSides() {
		for _, given := range [][]api.Proj{nil, {}, example(), {none}, {empty}, make([]api.Proj, 65), sample.Blanks(2, wheel[:65]).Projs} {
			noneAnswers(t, n, given, api.ErrArg)
		}
	}
	for _, n := range sample.Sides() {
		for _, flaw := range sample.LaidFlaws(n) {
			noneAnswers(t, n, flaw.Sino.Projs, flaw.Want)
		}
	}
}

// P17.1: likewise of each fault wherever it stands; one direction may stand twice, and bins may have any values.
func TestFaultsOfSinos(t *testing.T) {
	count := map[api.Errno]int{}
	for _, f := range sample.SinoFlaws() {
		want := sample.LaidFault(f.Sino.N, f.Sino.Projs)
		count[want]++
		if want != api.OK {
			noneAnswers(t, f.Sino.N, f.Sino.Projs, want)
			continue
		}
		checkField(t, about(f.Sino.N, f.Sino.Projs), all(t, f.Sino.N, f.Sino.Projs), sample.Laid(f.Sino.N, f.Sino.Projs))
	}
	for _, e := range []api.Errno{api.OK, api.ErrArg, api.ErrLong, api.ErrDir, api.ErrBins} {
		if count[e] < 20 {
			t.Errorf("only %d of them are told error %d", count[e], e)
		}
	}
}
