package peel_test

import (
	"fmt"
	"math"
	"slices"
	"testing"

	"penumbra/api"
	"penumbra/peel"
	"penumbra/sample"
)

// P14.1: the chapter's examples.
func TestExamples(t *testing.T) {
	rows, columns, slanted := sample.Proj(1, 0, 7, 3), sample.Proj(0, 1, 4, 6), sample.Proj(1, 1, 3, 5, 2)
	g, e := peel.Solve(two(rows, slanted))
	checkGrid(t, "Solve", right(t, g, e), api.Grid{N: 2, Cells: []complex128{1, 2, 3, 4}})
	for _, c := range []struct {
		s    api.Sino
		want api.Errno
	}{
		{two(rows, columns), api.ErrFew}, {two(sample.Proj(1, 0, 8, 3), slanted), api.ErrClash}, {two(), api.ErrFew},
	} {
		g, e := peel.Solve(c.s)
		refused(t, about(c.s), noGrid(g), e, c.want)
	}
	checkOpen(t, 2, []api.Dir{{P: 1}, {Q: 1}}, []bool{true, true, true, true})
	if left, e := peel.Left(2, []api.Dir{{P: 1}, {P: 1, Q: 1}}); left != 0 || e != api.OK {
		t.Errorf("Left: %d, error %d", left, e)
	}
}

// P14.1: grids that are written out: one cell, both parts, noughts, the greatest parts, lines without a cell.
func TestSolveWrittenOut(t *testing.T) {
	const most = api.MaxPart
	for _, c := range []struct {
		s    api.Sino
		want []complex128
	}{
		{one(0), []complex128{0}}, {one(5 - 7i), []complex128{5 - 7i}}, {one(complex(-most, most)), []complex128{complex(-most, most)}}, {one(2i, 2i, 2i), []complex128{2i}},
		{two(sample.Proj(1, 0, 7-1i, 3i), sample.Proj(1, 1, 3, 2+2i, 2)), []complex128{-2 + 3i, 2, 3, 4 - 1i}},
		// The slanted one alone tells the whole: each cell has a line of its own.
		{two(sample.Proj(1, 2, 3, 1i, -4, 2)), []complex128{1i, 2, 3, -4}}, {two(sample.Proj(-1, 2, 1, 3, 2, 4)), []complex128{1, 2, 3, 4}}, {two(sample.Proj(2, 1, 3, 4, 1, 2)), []complex128{1, 2, 3, 4}}, {two(sample.Proj(-2, 1, 1, 2, 3, 4)), []complex128{1, 2, 3, 4}},
		// Bins 1 and 4 are of lines on which no cell lies.
		{two(sample.Proj(2, 3, 3, 0, 1, 4, 0, 2)), []complex128{1, 2, 3, 4}}, {two(sample.Proj(-2, 3, 1, 0, 3, 2, 0, 4)), []complex128{1, 2, 3, 4}},
		{two(sample.Proj(0, 1, 0, 0), sample.Proj(-1, 1, 0, 0, 0)), []complex128{0, 0, 0, 0}},
		{two(sample.Proj(0, 1, 2*most, -2*most), sample.Proj(1, 1, most, 0, -most)), []complex128{most, -most, most, -most}},
	} {
		g, e := peel.Solve(c.s)
		checkGrid(t, about(c.s), right(t, g, e), api.Grid{N: c.s.N, Cells: c.want})
		checkSolve(t, c.s)
	}
}

// P14.1: no projections, both ways of saying it, of every side.
func TestNoProjections(t *testing.T) {
	for n := 1; n <= 64; n++ {
		for _, projs := range [][]api.Proj{nil, {}} {
			g, e := peel.Solve(api.Sino{N: n, Projs: projs})
			refused(t, "Solve of none", noGrid(g), e, api.ErrFew)
		}
	}
}

// P14.1: one projection along each direction.
func TestOneProjection(t *testing.T) {
	count := map[api.Errno]int{}
	for k, d := range sample.Wheel() {
		for _, n := range []int{1, 2, 1 + k%17} {
			g := sample.Grids(n)[k%13]
			count[checkSolve(t, sample.Seen(g, []api.Dir{d}))]++
			count[checkSolve(t, sample.Blanks(n, []api.Dir{d}))]++
			count[checkSolve(t, sample.Projs(n, []api.Dir{d}, func() float64 { return api.MaxPart + float64(k%2) }))]++
		}
	}
	for _, e := range []api.Errno{api.OK, api.ErrBig, api.ErrFew, api.ErrClash} {
		if count[e] < 50 {
			t.Errorf("error %d is told %d times", e, count[e])
		}
	}
}

// P14.1: many projections, of every side: of a grid, with some bins off, and such as no grid has; held against plain peeling.
func TestSolve(t *testing.T) {
	d := sample.Dice(141)
	count := map[api.Errno]int{}
	for n := 1; n <= 64; n++ {
		grids := sample.Grids(n)
		if n > 10 {
			grids = grids[n%13 : n%13+1]
		}
		for _, g := range grids {
			dirs := d.Enough(n)
			s := sample.Seen(g, dirs)
			all := []api.Sino{s, off(s, &d, 1, d.UpTo(3)), sample.Seen(g, dirs[:len(dirs)-1])}
			if n <= 10 {
				all = append(all, off(s, &d, 3, d.UpTo(3)), off(s, &d, 5, d.Extreme), off(all[2], &d, min(len(dirs)-1, 1), d.UpTo(3)), sample.Blanks(n, dirs), sample.Projs(n, dirs, d.UpTo(2*api.MaxPart)), sample.Projs(n, dirs, d.UpTo(api.MaxBin)))
			}
			for _, s := range all {
				count[checkSolve(t, s)]++
			}
		}
	}
	for _, n := range []int{1, 2, 3, 5} {
		for _, s := range sample.Sinos(n) {
			count[checkSolve(t, s)]++
		}
	}
	for _, e := range []api.Errno{api.OK, api.ErrBig, api.ErrFew, api.ErrClash} {
		if count[e] < 100 {
			t.Errorf("error %d is told %d times", e, count[e])
		}
	}
}

// P14.1: the first bin of those with one open cell is taken, which shows where projections contradict one another and a value is too great in one order but not in another.
func TestOrderOfSteps(t *testing.T) {
	d := sample.Dice(142)
	byLast, byAny, byTurn := 0, 0, 0
	for k := range 6000 {
		n := 2 + k%4
		dirs := d.Enough(n)
		if k%3 == 0 {
			dirs = once(append(dirs, d.Picked(sample.Short(), 3)...))
		}
		g := api.Grid{N: n, Cells: d.List(n*n, []func() float64{d.Extreme, d.UpTo(3), d.Whole}[k%3])}
		s := off(sample.Seen(g, dirs), &d, 1+k%4, []func() float64{d.UpTo(2), d.Extreme}[k/3%2])
		want := checkSolve(t, s)
		if _, e := solved(s, last()); e != want {
			byLast++
		}
		if _, e := solved(s, anyOf(&d)); e != want {
			byAny++
		}
		turned := sample.CopySino(s)
		slices.Reverse(turned.Projs)
		if checkSolve(t, turned) != want {
			byTurn++
		}
	}
	if min(byLast, byAny, byTurn) < 200 {
		t.Errorf("the samples are too much alike: another order shows %d, %d, %d times", byLast, byAny, byTurn)
	}
}

// P14.1: orders that are written out. Along (1, 2) each cell of side 2 has its own line; the rows, which stand ahead, take the second cell of each as soon as it is alone.
func TestOrderWrittenOut(t *testing.T) {
	const big = api.MaxPart + 1
	rows := func(low, high complex128) api.Proj { return sample.Proj(1, 0, low, high) }
	apart := func(a, b, c, d complex128) api.Proj { return sample.Proj(1, 2, a, b, c, d) }
	for _, c := range []struct {
		s    api.Sino
		want api.Errno
	}{
		{two(rows(7, 3), apart(3, 1, 4, 2)), api.OK},
		{two(rows(7, 3), apart(big, 1, 4, 2)), api.ErrBig}, {two(rows(7, 3), apart(3, big, 4, 2)), api.ErrBig},
		{two(rows(7, 3), apart(3, 1, big, 2)), api.ErrClash}, {two(rows(7, 3), apart(3, 1, 4, big)), api.ErrClash}, {two(rows(7, 3), apart(3, 1, api.MaxBin, -api.MaxBin)), api.ErrClash},
		{two(rows(big+3, 3), apart(3, 1, 4, 2)), api.ErrBig}, {two(rows(big+2, 3), apart(3, 1, 4, 2)), api.ErrClash}, {two(rows(7, 1i-big), apart(3, 1, 4, 2)), api.ErrBig}, {two(rows(7, 1-big), apart(3, 0, 4, 2)), api.ErrClash},
		{two(apart(3, 1, 4, 2), rows(big+3, 3)), api.ErrClash}, {two(apart(3, 1, 4, 2), rows(7, -api.MaxBin)), api.ErrClash}, {two(apart(3, 1, big, 2), rows(7, 3)), api.ErrBig}, {two(apart(3, 1, 4, big*1i), rows(7, 3)), api.ErrBig},
		{one(big, 5), api.ErrBig}, {one(5, big), api.ErrClash}, {one(5, big, big), api.ErrClash}, {one(big, big), api.ErrBig}, {one(big, 5, 5), api.ErrBig}, {one(1i, 5, 1i), api.ErrClash},
		// Too great at the last step, with a rest that stays elsewhere; and a bin so great that is never taken.
		{two(rows(7, big+1), sample.Proj(1, 1, 3, 5, 2)), api.ErrBig}, {two(rows(7, big), sample.Proj(1, 1, 3, 5, 2)), api.ErrClash}, {two(rows(7, 3), sample.Proj(1, 1, 3, 5, big)), api.ErrClash}, {two(rows(7, 3), sample.Proj(1, 1, big, 5, 2)), api.ErrBig}, {two(rows(7, 3), sample.Proj(1, 1, 3, big+4, 2)), api.ErrBig}, {two(rows(7, 3), sample.Proj(1, 1, 3, big+3, 2)), api.ErrClash},
		{two(sample.Proj(1, 1, 3, 5, big), rows(7, 3)), api.ErrBig}, {two(sample.Proj(1, 1, 3, 5, 2), rows(7, big+3)), api.ErrClash},
	} {
		solves(t, fmt.Sprint(c.s), c.s, c.want)
	}
}

// P14.1: parts of MaxPart are a cell's value, one beyond is not, in either part and of either sign: of side 1 along each direction, of the corners, of the last cell, and behind other cells of the line.
func TestGreatestParts(t *testing.T) {
	const most = api.MaxPart
	for _, side := range []float64{most, -most} {
		more := math.Copysign(1, side)
		for _, c := range []struct {
			v    complex128
			want api.Errno
		}{
			{complex(side, 0), api.OK}, {complex(0, side), api.OK}, {complex(side, -side), api.OK}, {complex(side, side), api.OK},
			{complex(side+more, 0), api.ErrBig}, {complex(0, side+more), api.ErrBig}, {complex(side+more, -side), api.ErrBig}, {complex(side, side+more), api.ErrBig}, {complex(7, 4095*side), api.ErrBig}, {complex(4095*side, -7), api.ErrBig},
		} {
			for _, d := range sample.Wheel() {
				solves(t, "one cell", api.Sino{N: 1, Projs: []api.Proj{{Dir: d, Bins: []complex128{c.v}}}}, c.want)
			}
			few := c.want
			if few == api.OK {
				few = api.ErrFew
			}
			solves(t, "a corner", two(sample.Proj(1, 1, c.v, 1, 2)), few)
			solves(t, "another one", two(sample.Proj(1, 1, 1, 2, c.v)), few)
			solves(t, "a corner, and a rest elsewhere", two(sample.Proj(1, 1, 1, 2, c.v), sample.Proj(0, 1, 0, 5)), map[bool]api.Errno{true: api.ErrClash, false: api.ErrBig}[c.want == api.OK])
			solves(t, "no lone cell", two(sample.Proj(1, 0, c.v, c.v), sample.Proj(0, 1, c.v, c.v)), api.ErrFew)
			solves(t, "two on a line", two(sample.Proj(1, 1, 1, c.v, 2)), api.ErrFew)
			solves(t, "behind another cell", two(sample.Proj(-1, 1, 3, c.v-4, 5), sample.Proj(1, 0, 1, c.v+3)), c.want)
		}
	}
}

// P14.1: ErrBig is told as soon as there is such a cell, whatever the others are: at each step of a peeling.
func TestBigAtEachStep(t *testing.T) {
	d := sample.Dice(143)
	for _, n := range []int{2, 3, 5, 8} {
		for range 4 {
			dirs := d.Enough(n)
			for place := range n * n {
				for _, v := range []complex128{api.MaxPart + 1, complex(3, -api.MaxPart-1)} {
					g := sample.With(api.Grid{N: n, Cells: d.List(n*n, d.UpTo(50))}, place, v)
					s := sample.Seen(g, dirs)
					solves(t, about(s), s, api.ErrBig)
					checkSolve(t, off(s, &d, 2, d.UpTo(9)))
				}
			}
		}
	}
}

// P14.1: ErrFew where a cell stays open, whether the rests are 0 or not.
func TestFew(t *testing.T) {
	for _, s := range []api.Sino{
		two(sample.Proj(1, 0, 7, 3), sample.Proj(0, 1, 4, 6)), two(sample.Proj(1, 0, 7, 3), sample.Proj(0, 1, 4, 5)), two(sample.Proj(1, 0, 0, 0), sample.Proj(0, 1, 0, 0)), two(sample.Proj(1, 0, 0, 0)), two(sample.Proj(1, 1, 3, 5, 2)), two(sample.Proj(1, 1, 3, 0, 2)), two(sample.Proj(1, 1, 0, 0, 0)), two(sample.Proj(-1, 1, 3, 5i, 2)),
		two(sample.Proj(1, 0, api.MaxBin, -api.MaxBin), sample.Proj(0, 1, 1, 2)),
		sample.Blanks(3, []api.Dir{{P: 1}, {P: 1, Q: 1}}), sample.Seen(sample.Numbered(64), sample.Dirs()[:8]),
	} {
		solves(t, about(s), s, api.ErrFew)
	}
	d, clashing := sample.Dice(144), 0
	for k := range 300 {
		n := 3 + k%6
		s := sample.Seen(api.Grid{N: n, Cells: d.List(n*n, d.UpTo(1000))}, d.Picked(sample.Short()[:4], 2))
		solves(t, about(s), s, api.ErrFew)
		wrong := off(s, &d, 3, d.UpTo(1000))
		solves(t, about(wrong), wrong, api.ErrFew)
		if !sample.SameSino(s, wrong) {
			clashing++
		}
	}
	if clashing < 200 {
		t.Errorf("%d contradict one another", clashing)
	}
}

// P14.1: ErrClash where every cell is known and a rest is not 0: one bin off, each in turn, the first, the last and those of lines without a cell among them, in either part.
func TestClash(t *testing.T) {
	d, empty := sample.Dice(145), 0
	for _, n := range []int{1, 2, 3, 6} {
		for range 6 {
			dirs := once(append(d.Picked(sample.Dirs(), 5), d.Enough(n)...))
			s := sample.Seen(api.Grid{N: n, Cells: d.List(n*n, d.UpTo(300))}, dirs)
			solves(t, about(s), s, api.OK)
			for place, lines := range linesOf(n, dirs) {
				for bin, cells := range lines {
					if len(cells) == 0 {
						empty++
					}
					for _, more := range []complex128{1, -1, 1i, -1i} {
						wrong := sample.WithBin(s, place, bin, s.Projs[place].Bins[bin]+more)
						solves(t, fmt.Sprintf("%s, bin %d of %v is %v off", about(s), bin, dirs[place], more), wrong, api.ErrClash)
					}
				}
			}
		}
	}
	if empty < 500 {
		t.Errorf("%d lines have no cell", empty)
	}
}

// P14.1: lines without a cell alone contradict: one projection, whose other bins tell every cell.
func TestClashWithoutCells(t *testing.T) {
	for bin, want := range []api.Errno{api.OK, api.ErrClash, api.OK, api.OK, api.ErrClash, api.OK} {
		for _, v := range []complex128{9, 1i, -1, api.MaxPart + 1, complex(0, -api.MaxBin)} {
			s := sample.WithBin(two(sample.Proj(2, 3, 3, 0, 1, 4, 0, 2)), 0, bin, v)
			if want == api.OK && real(v) <= api.MaxPart && imag(v) >= -api.MaxPart {
				solves(t, "a cell's bin", s, api.OK)
			} else if want == api.OK {
				solves(t, "a cell's bin, too great", s, api.ErrBig)
			} else {
				solves(t, "a bin without a cell", s, api.ErrClash)
			}
		}
	}
}

// P14.1: what isn't sound, by the errors of Check in their order.
func TestNotSound(t *testing.T) {
	for _, f := range sample.SinoFlaws() {
		g, e := peel.Solve(f.Sino)
		refused(t, about(f.Sino), noGrid(g), e, f.Want)
	}
}

// P14.1: Check's errors come ahead of what peeling would tell of the others.
func TestNotSoundAhead(t *testing.T) {
	for want, s := range map[api.Errno]api.Sino{
		api.OK: two(sample.Proj(1, 2, 3, 1, 4, 2)), api.ErrBig: two(sample.Proj(1, 2, api.MaxPart+1, 1, 4, 2)), api.ErrFew: two(sample.Proj(1, 0, 7, 3)), api.ErrClash: two(sample.Proj(1, 2, 3, 1, 4, 2), sample.Proj(1, 0, 8, 3)),
	} {
		solves(t, about(s), s, want)
		with := func(more ...api.Proj) api.Sino { return two(append(slices.Clip(s.Projs), more...)...) }
		ahead := func(p api.Proj) api.Sino { return two(append([]api.Proj{p}, s.Projs...)...) }
		var many []api.Proj
		for _, d := range sample.Wheel()[:64] {
			many = append(many, sample.Blank(2, d))
		}
		for _, f := range []struct {
			s    api.Sino
			want api.Errno
		}{
			{api.Sino{N: 0, Projs: s.Projs}, api.ErrArg}, {api.Sino{N: 65, Projs: s.Projs}, api.ErrArg}, {api.Sino{N: -2, Projs: s.Projs}, api.ErrArg}, {api.Sino{N: math.MinInt, Projs: s.Projs}, api.ErrArg}, {api.Sino{N: 1, Projs: s.Projs}, api.ErrBins}, {api.Sino{N: 3, Projs: s.Projs}, api.ErrBins},
			{with(many...), api.ErrLong}, {with(make([]api.Proj, 64)...), api.ErrLong}, {api.Sino{N: 65, Projs: make([]api.Proj, 65)}, api.ErrArg},
			{with(sample.Proj(2, 2, 1, 2, 3)), api.ErrDir}, {ahead(sample.Proj(0, 0, 1)), api.ErrDir}, {with(sample.Proj(0, -1)), api.ErrDir}, {with(sample.Proj(math.MinInt, 1)), api.ErrDir},
			{with(s.Projs[0]), api.ErrTwice}, {with(api.Proj{Dir: s.Projs[0].Dir}), api.ErrTwice},
			{with(sample.Proj(0, 1, 4)), api.ErrBins}, {with(sample.Proj(0, 1, 4, 6, 0)), api.ErrBins}, {ahead(sample.Proj(0, 1)), api.ErrBins}, {ahead(sample.Proj(0, 1, 4, complex(6, sample.MinusNought()))), api.ErrBins},
			{with(sample.Proj(0, 1, 4, complex(math.NaN(), 0))), api.ErrBins}, {with(sample.Proj(0, 1, 4, complex(0, math.Inf(-1)))), api.ErrBins}, {with(sample.Proj(0, 1, 4, 0.5)), api.ErrBins}, {with(sample.Proj(0, 1, api.MaxBin+1, 6)), api.ErrBins}, {with(sample.Proj(0, 1, 0, complex(0, -api.MaxBin-1))), api.ErrBins},
			{sample.WithBin(s, 0, 0, complex(math.Inf(1), 0)), api.ErrBins}, {sample.WithBin(s, 0, 1, complex(sample.MinusNought(), 0)), api.ErrBins},
		} {
			g, e := peel.Solve(f.s)
			refused(t, about(f.s), noGrid(g), e, f.want)
		}
	}
}

// P14.1: 64 projections of the greatest side, and all that there may be of others.
func TestSolveMost(t *testing.T) {
	for _, n := range []int{1, 2, 17, 63, 64} {
		for _, dirs := range [][]api.Dir{sample.Wheel()[:64], sample.Wheel()[100:164]} {
			g := sample.Grids(n)[5]
			s := sample.Seen(g, dirs)
			got, e := peel.Solve(s)
			checkGrid(t, about(s), right(t, got, e), g)
			bins := len(s.Projs[63].Bins)
			for _, bin := range []int{0, bins / 2, bins - 1} {
				wrong := sample.WithBin(s, 63, bin, s.Projs[63].Bins[bin]+1)
				got, e := peel.Solve(wrong)
				refused(t, "the last one is off", noGrid(got), e, api.ErrClash)
			}
		}
	}
}
