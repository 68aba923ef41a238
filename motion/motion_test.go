package motion_test

import (
	"fmt"
	"math"
	"math/big"
	"slices"
	"testing"

	"penumbra/api"
	"penumbra/grid"
	"penumbra/motion"
	"penumbra/ray"
	"penumbra/sample"
)

// P20.1: the chapter's examples, and others that are written out.
func TestExamples(t *testing.T) {
	dirs := []api.Dir{{P: 1}, {Q: 1}}
	g := api.Grid{N: 2, Cells: []complex128{0, 5, 0, 0}}
	steps := []api.Step{{Y: 1}, {X: -1}}
	two := func(a, b []complex128) api.Sino {
		return api.Sino{N: 2, Projs: []api.Proj{{Dir: dirs[0], Bins: a}, {Dir: dirs[1], Bins: b}}}
	}
	seen, still := two([]complex128{5, 0}, []complex128{5, 0}), two([]complex128{0, 5}, []complex128{0, 5})
	checkTake(t, g, dirs, steps, seen, api.OK)
	checkUndo(t, seen, steps, still, api.OK)
	checkTake(t, g, dirs, sample.Same(api.Step{X: 1}, 2), api.Sino{}, api.ErrLost)
	checkTake(t, g, dirs, []api.Step{{}, {X: 1}}, api.Sino{}, api.ErrLost)
	checkTake(t, g, dirs, sample.Same(api.Step{}, 2), still, api.OK)
	p := sample.Proj(1, 0, 0, 5)
	checkSlide(t, 2, p, -1, sample.Proj(1, 0, 5, 0), api.OK)
	checkSlide(t, 2, p, 1, api.Proj{}, api.ErrLost)
	checkSlide(t, 2, p, 0, p, api.OK)
	checkDrift(t, p, sample.Proj(1, 0, 5, 0), -1, true)
	checkDrift(t, p, sample.Proj(1, 0, 0, 6), 0, false)
	checkDrift(t, sample.Proj(1, 0, 0, 0), sample.Proj(1, 0, 0, 0), 0, true)

	// Along (1, 2) a step of (1, 0) moves bins on by 2, one of (0, 1) by -1, one of (1, 1) by 1; along (-1, 2) by 2, 1 and 3.
	g = api.Grid{N: 2, Cells: []complex128{3 - 4i, 0, 0, 0}}
	slopes := []api.Dir{{P: 1, Q: 2}, {P: -1, Q: 2}}
	of := func(a, b int) api.Sino {
		out := api.Sino{N: 2}
		for i, bin := range []int{a, b} {
			bins := make([]complex128, 4)
			bins[bin] = 3 - 4i
			out.Projs = append(out.Projs, api.Proj{Dir: slopes[i], Bins: bins})
		}
		return out
	}
	checkTake(t, g, slopes, sample.Same(api.Step{}, 2), of(1, 0), api.OK)
	checkTake(t, g, slopes, sample.Same(api.Step{X: 1}, 2), of(3, 2), api.OK)
	checkTake(t, g, slopes, sample.Same(api.Step{Y: 1}, 2), of(0, 1), api.OK)
	checkTake(t, g, slopes, sample.Same(api.Step{X: 1, Y: 1}, 2), of(2, 3), api.OK)
	checkUndo(t, of(3, 2), sample.Same(api.Step{X: 1}, 2), of(1, 0), api.OK)
	checkUndo(t, of(3, 3), []api.Step{{X: 1, Y: -1}, {X: 1, Y: 1}}, of(0, 0), api.OK)
	checkUndo(t, of(0, 0), []api.Step{{X: -1, Y: 1}, {X: -1, Y: -1}}, of(3, 3), api.OK)
	checkUndo(t, of(3, 2), []api.Step{{X: 1}, {X: 1, Y: 1}}, api.Sino{}, api.ErrLost)
	checkUndo(t, of(3, 2), []api.Step{{X: 2}, {X: 1}}, api.Sino{}, api.ErrLost)
}

// P20.1: at every side, along none, one, some and as many directions as there may be, with steps that lose nothing, that lose a cell, and of all lengths: cell by cell what is seen.
func TestTake(t *testing.T) {
	d := sample.Dice(211)
	count := map[api.Errno]int{}
	apart := 0
	for n := 1; n <= 64; n++ {
		for _, dirs := range lists(n, &d) {
			for _, g := range grids(n, &d) {
				way := d.Walk(g, len(dirs))
				for _, steps := range [][]api.Step{way, sample.Same(api.Step{}, len(dirs)), d.Astray(g, way), d.AnySteps(n, len(dirs))} {
					want, e := taken(g, dirs, steps)
					checkTake(t, g, dirs, steps, want, e)
					count[e]++
					if e == api.OK && len(dirs) > 0 && !sample.SameSino(want, sample.Seen(g, dirs)) {
						apart++
					}
				}
			}
		}
	}
	if count[api.OK] < 2000 || count[api.ErrLost] < 2000 || apart < 500 {
		t.Errorf("the samples are too much alike: %v, %d of them are seen to move", count, apart)
	}
}

// P20.1: what is seen is, direction by direction, layer 9's projection of the grid that layer 5 has moved.
func TestTakeByTheLayersBelow(t *testing.T) {
	d := sample.Dice(212)
	for n := 1; n <= 64; n++ {
		dirs := d.Picked(sample.Wheel(), 7)
		if n%16 == 0 {
			dirs = d.Picked(sample.Wheel(), 64)
		}
		for _, g := range grids(n, &d) {
			steps := d.Walk(g, len(dirs))
			want := api.Sino{N: n}
			for i, along := range dirs {
				there, e := grid.Shift(g, steps[i].X, steps[i].Y)
				p, f := ray.Project(there, along)
				if e != api.OK || f != api.OK {
					t.Fatalf("side %d: errors %d and %d", n, e, f)
				}
				want.Projs = append(want.Projs, p)
			}
			checkTake(t, g, dirs, steps, want, api.OK)
		}
	}
}

// P20.1: a cell that isn't 0, wherever it stands and whatever it is, is lost just if it leaves the grid; what is 0 may leave it.
func TestCellsAtTheEdge(t *testing.T) {
	values := []complex128{1, -1, 1i, -1i, api.MaxPart, complex(0, -api.MaxPart), 3 - 2i}
	for n := 1; n <= 4; n++ {
		for place := range n * n {
			g := dot(n, place%n, place/n, values[(place+n)%len(values)])
			for _, x := range append(sample.Reaches(n), 2, -2, 3, -3) {
				for _, y := range append(sample.Reaches(n), 2, -2, 3, -3) {
					dirs, steps := []api.Dir{{P: 1}, {P: -2, Q: 3}}, []api.Step{{}, {X: x, Y: y}}
					want, e := taken(g, dirs, steps)
					checkTake(t, g, dirs, steps, want, e)
				}
			}
		}
	}
	for _, n := range []int{5, 17, 64} {
		for _, v := range values {
			for _, place := range []int{0, n / 2, n - 1} {
				// Towards the edge that is n - 1 - place away, and the one that is place away.
				row, column, along := dot(n, place, n/3, v), dot(n, n/3, place, v), []api.Dir{{P: 3, Q: 2}}
				for _, over := range []int{0, 1} {
					e := []api.Errno{api.OK, api.ErrLost}[over]
					for _, c := range []struct {
						g    api.Grid
						step api.Step
					}{{row, api.Step{X: n - 1 - place + over}}, {row, api.Step{X: -place - over}}, {column, api.Step{Y: n - 1 - place + over}}, {column, api.Step{Y: -place - over}}} {
						want, told := taken(c.g, along, []api.Step{c.step})
						if told != e {
							t.Fatalf("side %d: the rules tell error %d, not %d", n, told, e)
						}
						checkTake(t, c.g, along, []api.Step{c.step}, want, e)
					}
				}
			}
		}
	}
}

// P20.1: a grid without a cell that isn't 0 loses nothing, however far it goes.
func TestNothingToLose(t *testing.T) {
	d := sample.Dice(213)
	for _, n := range sample.Sides() {
		blank := sample.Filled(n, 0)
		for _, dirs := range sample.DirLists() {
			steps := d.AnySteps(n, len(dirs))
			checkTake(t, blank, dirs, steps, sample.Seen(blank, dirs), api.OK)
			checkUndo(t, sample.Seen(blank, dirs), steps, sample.Seen(blank, dirs), api.OK)
		}
	}
}

// P20.1: cells are lost where they leave the grid, though their sums along that direction are 0.
func TestLostThoughUnseen(t *testing.T) {
	for _, c := range []struct {
		n     int
		cells []complex128
		along api.Dir
		step  api.Step
	}{
		{2, []complex128{5, -5, 0, 0}, api.Dir{P: 1}, api.Step{Y: -1}},
		{2, []complex128{5, -5, 0, 0}, api.Dir{P: 1}, api.Step{X: 1}},
		{2, []complex128{2i, 0, -2i, 0}, api.Dir{Q: 1}, api.Step{X: -1}},
		{2, []complex128{2i, 0, -2i, 0}, api.Dir{Q: 1}, api.Step{Y: math.MaxInt}},
		{3, []complex128{1, 0, 0, 0, 0, 0, 0, 0, -1}, api.Dir{P: 1, Q: 1}, api.Step{X: 1, Y: 1}},
	} {
		g := api.Grid{N: c.n, Cells: c.cells}
		checkTake(t, g, []api.Dir{c.along}, []api.Step{c.step}, api.Sino{}, api.ErrLost)
		checkTake(t, g, []api.Dir{c.along}, []api.Step{{}}, sample.Seen(sample.Filled(c.n, 0), []api.Dir{c.along}), api.OK)
	}
}

// P20.1: one step among many loses a cell, wherever it stands in the list.
func TestOneStepAstray(t *testing.T) {
	g, dirs := dot(3, 1, 1, 7), sample.Wheel()[:64]
	for place := range dirs {
		steps := sample.Same(api.Step{X: 1, Y: -1}, 64)
		steps[place] = []api.Step{{X: 2}, {X: -2}, {Y: 2}, {Y: -2}}[place%4]
		checkTake(t, g, dirs, steps, api.Sino{}, api.ErrLost)
		steps[place] = api.Step{X: -1, Y: 1}
		want, e := taken(g, dirs, steps)
		checkTake(t, g, dirs, steps, want, e)
		// Bins that are moved out are told wherever they stand, too.
		steps[place] = api.Step{X: 64 * 64, Y: 64}
		checkUndo(t, want, steps, api.Sino{}, api.ErrLost)
	}
}

// P20.1: projections of all kinds, those of grids and others, with steps of all kinds.
func TestUndo(t *testing.T) {
	d := sample.Dice(214)
	count := map[api.Errno]int{}
	for n := 1; n <= 64; n += 1 + n/9 {
		for _, dirs := range lists(n, &d) {
			for _, g := range grids(n, &d) {
				s := sample.Seen(g, dirs)
				way := d.Walk(g, len(dirs))
				for i := range way { // what would undo such a step
					way[i] = api.Step{X: -way[i].X, Y: -way[i].Y}
				}
				for _, steps := range [][]api.Step{way, sample.Same(api.Step{}, len(dirs)), d.Astray(g, way), d.AnySteps(n, len(dirs))} {
					want, e := undone(s, steps)
					checkUndo(t, s, steps, want, e)
					count[e]++
				}
			}
		}
		for i, s := range sample.Sinos(n) {
			if n > 4 && i%3 != 0 {
				continue
			}
			for _, steps := range [][]api.Step{sample.Same(api.Step{X: 1, Y: -2}, len(s.Projs)), d.AnySteps(n, len(s.Projs))} {
				want, e := undone(s, steps)
				checkUndo(t, s, steps, want, e)
				count[e]++
			}
		}
	}
	if count[api.OK] < 500 || count[api.ErrLost] < 500 {
		t.Errorf("the samples are too much alike: %v", count)
	}
}

// P20.1: bins are moved back by Q*X - P*Y as it is, though its factors, its products or its difference pass an int: numbers near to 0, out of small steps and out of the greatest that there are, and those that are the same as near ones by remainders of 2^32 and 2^64.
func TestUndoWithoutBounds(t *testing.T) {
	count := map[api.Errno]int{}
	beyond := 0
	for _, along := range sample.Wheel() {
		const n = 4
		many := sample.BinCount(n, along)
		middle := sample.Projs(n, []api.Dir{along}, func() float64 { return 0 })
		blank := sample.CopySino(middle)
		middle.Projs[0].Bins[many/2] = 4 - 1i
		for _, round := range []*big.Int{big.NewInt(0), big.NewInt(1 << 32), new(big.Int).Lsh(big.NewInt(1), 63), new(big.Int).Lsh(big.NewInt(1), 64), new(big.Int).Lsh(big.NewInt(3), 64), new(big.Int).Lsh(big.NewInt(15), 64)} {
			for _, near := range []int{0, 1, -1, many / 2, many/2 + 1, -(many - 1 - many/2), -(many - many/2)} {
				for _, sign := range []int64{1, -1} {
					by := new(big.Int).Mul(round, big.NewInt(sign))
					step, there := solved(along, by.Add(by, big.NewInt(int64(near))))
					if !there {
						continue
					}
					if far(along, step).Cmp(by) != 0 {
						t.Fatalf("along %v: %v is not %v away", along, step, by)
					}
					for _, same := range alike(along, step) {
						want, e := undone(middle, []api.Step{same})
						checkUndo(t, middle, []api.Step{same}, want, e)
						checkUndo(t, blank, []api.Step{same}, blank, api.OK)
						count[e]++
					}
					if !by.IsInt64() {
						beyond++
					}
				}
			}
		}
	}
	if count[api.OK] < 2000 || count[api.ErrLost] < 2000 || beyond < 2000 {
		t.Errorf("the samples are too much alike: %v, %d of them pass an int", count, beyond)
	}
}

// P20.1: the ends of int as steps, written out: what cancels out moves nothing, what comes to 0 by going round an int moves all bins out.
func TestUndoAtTheEndsOfInt(t *testing.T) {
	const least, most = math.MinInt, math.MaxInt
	for _, c := range []struct {
		p, q int
		step api.Step
		want api.Errno
	}{
		{1, 1, api.Step{X: most, Y: most}, api.OK},
		{1, 1, api.Step{X: least, Y: least}, api.OK},
		{-1, 1, api.Step{X: most, Y: -most}, api.OK},
		{2, 1, api.Step{X: most - 1, Y: most / 2}, api.OK},
		{16, 15, api.Step{X: 16 * (most / 16), Y: 15 * (most / 16)}, api.OK},
		{-1, 1, api.Step{X: least, Y: most}, api.ErrLost}, // by -1
		{1, 1, api.Step{X: most, Y: most - 1}, api.ErrLost},
		{1, 1, api.Step{X: most, Y: least}, api.ErrLost},           // -1 by going round
		{1, 1, api.Step{X: least, Y: most}, api.ErrLost},           // 1 by going round
		{-1, 1, api.Step{X: least, Y: least}, api.ErrLost},         // 0 by going round
		{-1, 1, api.Step{X: most, Y: most}, api.ErrLost},           // -2 by going round
		{1, 2, api.Step{X: least}, api.ErrLost},                    // 0 by going round
		{1, 16, api.Step{X: 1 << 60}, api.ErrLost},                 // 0 by going round
		{1, 16, api.Step{X: least, Y: 16}, api.ErrLost},            // -16 by going round
		{-16, 15, api.Step{X: least, Y: least}, api.ErrLost},       // 2^63 by going round
		{-15, 16, api.Step{X: 1 << 60, Y: 1 << 60}, api.ErrLost},   // 2^64 - 2^60 by going round
		{16, 15, api.Step{X: 1 << 60, Y: -(1 << 60)}, api.ErrLost}, // by going round below 0
		{0, 1, api.Step{X: least, Y: 7}, api.ErrLost},
		{0, 1, api.Step{X: most, Y: least}, api.ErrLost},
		{0, 1, api.Step{Y: least}, api.OK},
		{0, 1, api.Step{Y: most}, api.OK},
		{1, 0, api.Step{X: least}, api.OK},
		{1, 0, api.Step{X: most}, api.OK},
		{1, 0, api.Step{X: most, Y: least}, api.ErrLost},
		{1, 0, api.Step{Y: most}, api.ErrLost},
	} {
		for _, n := range []int{1, 2, 64} {
			along := api.Dir{P: c.p, Q: c.q}
			full := sample.Projs(n, []api.Dir{along}, func() float64 { return 3 })
			blank := sample.Projs(n, []api.Dir{along}, func() float64 { return 0 })
			want := full
			if c.want != api.OK {
				want = api.Sino{}
			}
			checkUndo(t, full, []api.Step{c.step}, want, c.want)
			checkUndo(t, blank, []api.Step{c.step}, blank, api.OK)
		}
	}
}

// bins: of a projection, of every kind: any values, noughts at the ends, one bin alone, noughts alone.
func bins(many int, d *sample.Dice) [][]complex128 {
	out := append(sample.Lists(many), edged(many, d, ownNaN(d)), d.List(many, ownNaN(d)), make([]complex128, many), d.List(many, sample.MinusNought))
	for _, part := range d.Parts() {
		out = append(out, edged(many, d, part), edged(many, d, part))
	}
	for _, v := range []complex128{5, complex(0, math.Inf(-1)), complex(math.NaN(), 0), complex(sample.MinusNought(), 0x1p-1074), 1 << 40} {
		one := d.List(many, d.Sign)
		one[d.Number(many-1)] = v
		out = append(out, one)
	}
	return out
}

// P20.1: bins of any values, moved on by any number: those that stay keep their bits, the others are +0.
func TestSlide(t *testing.T) {
	d := sample.Dice(215)
	count := map[api.Errno]int{}
	for _, n := range []int{1, 2, 3, 5, 13, 64} {
		for i, along := range sample.Dirs() {
			if n > 12 && i%4 != 0 {
				continue
			}
			many := sample.BinCount(n, along)
			for _, list := range bins(many, &d) {
				p := api.Proj{Dir: along, Bins: list}
				for k, by := range shoves(many) {
					if n > 12 && (k+i)%3 != 0 {
						continue
					}
					want, e := slidBy(p, by)
					checkSlide(t, n, p, by, want, e)
					count[e]++
				}
			}
		}
	}
	if count[api.OK] < 10000 || count[api.ErrLost] < 10000 {
		t.Errorf("the samples are too much alike: %v", count)
	}
}

// P20.1: as far as the first bin that isn't 0 reaches, and the last one, and no bin further; a nought with a sign is no such bin, and is +0 where it is moved out.
func TestSlideToTheEdge(t *testing.T) {
	minus := sample.MinusNought()
	along := api.Dir{P: -1, Q: 2}
	for n := 2; n <= 64; n++ {
		many := sample.BinCount(n, along)
		for _, v := range []complex128{1, -1i, complex(math.Inf(1), 0), complex(0, math.NaN()), 0x1p-1074, complex(minus, -0x1p-1074), complex(math.MaxFloat64, minus)} {
			bins := slices.Repeat([]complex128{complex(minus, minus)}, many)
			first, last := n/3, many-1-n/4
			bins[first], bins[last] = v, v
			p := api.Proj{Dir: along, Bins: bins}
			for by := -many; by <= many; by++ {
				got, e := motion.Slide(n, p, by)
				if by < -first || by > many-1-last {
					sameProj(t, "Slide too far", got, e, api.Proj{}, api.ErrLost)
					continue
				}
				want, _ := slidBy(p, by)
				sameProj(t, "Slide", got, e, want, api.OK)
				if by > 0 && math.Signbit(real(got.Bins[0])) || by < 0 && math.Signbit(imag(got.Bins[many-1])) {
					t.Fatalf("by %d: a nought that came in has a sign", by)
				}
			}
		}
	}
}

// P20.1: how far bins were moved on, written out.
func TestDriftWrittenOut(t *testing.T) {
	minus, nan, inf := sample.MinusNought(), math.NaN(), math.Inf(1)
	list := func(v ...complex128) []complex128 { return v }
	for _, c := range []struct {
		a, b  []complex128
		want  int
		found bool
	}{
		{nil, nil, 0, true},
		{list(), nil, 0, true},
		{nil, list(), 0, true},
		{nil, list(0), 0, false},
		{list(0), nil, 0, false},
		{list(0, 0), list(0, 0), 0, true}, // by any number: 0 is the nearest
		{list(0), list(complex(minus, minus)), 0, true},
		{list(complex(0, minus), 0, 0), list(0, complex(minus, 0), 0), 0, true},
		{list(0, 0), list(0, 0, 0), 0, false},
		{list(5), list(5), 0, true},
		{list(5), list(6), 0, false},
		{list(5), list(5i), 0, false},
		{list(5), list(0), 0, false},
		{list(0), list(5), 0, false},
		{list(1, 0, 0), list(0, 1, 0), 1, true},
		{list(1, 0, 0), list(0, 0, 1), 2, true},
		{list(0, 0, 1), list(1, 0, 0), -2, true},
		{list(0, 1, 0), list(1, 0, 0), -1, true},
		{list(0, 1, 0), list(0, 1, 0), 0, true},
		{list(1, 1, 0), list(0, 1, 1), 1, true},
		{list(0, 1, 1), list(1, 1, 0), -1, true},
		{list(1, 2, 0), list(0, 1, 3), 0, false},
		{list(1, 0, 1, 0), list(0, 1, 0, 1), 1, true},
		{list(0, 1, 0, 1), list(1, 0, 1, 0), -1, true},
		{list(1, 0, 1, 0), list(0, 0, 1, 0), 0, false}, // nothing is moved out but 0
		{list(1, 0, 1, 0), list(1, 0, 0, 0), 0, false},
		{list(0, 1, 0, 1), list(0, 1, 0, 0), 0, false},
		{list(1, 1, 1), list(0, 1, 1), 0, false},
		{list(1, 1, 1), list(1, 1, 0), 0, false},
		{list(0, 1, 1), list(1, 1, 1), 0, false},
		{list(1, 2, 3), list(2, 3, 0), 0, false},
		{list(1, 2, 3), list(0, 1, 2), 0, false},
		{list(0, 5, 0), list(0, 0, 0), 0, false},
		{list(0, 0, 0), list(0, 5, 0), 0, false},
		{list(0, 5, 0, 0, 0), list(0, 0, 0, 0, 0), 0, false},
		{list(0, 0, 0, 0, 0), list(0, 5, 0, 0, 0), 0, false},
		{list(1, 0, 0, 2), list(1, 0, 0, 2), 0, true},
		{list(complex(inf, 1), 0), list(0, complex(inf, 1)), 1, true},
		{list(complex(inf, 1), 0), list(0, complex(-inf, 1)), 0, false},
		{list(complex(nan, 0), 0), list(complex(nan, 0), 0), 0, false},
		{list(complex(0, nan), 0), list(0, complex(0, nan)), 0, false},
		{list(complex(nan, 0), 0), list(0, 0), 0, false},
		{list(0, 0), list(0, complex(nan, 0)), 0, false},
		{list(5, complex(0, nan), 0), list(0, 5, complex(0, nan)), 0, false},
		{list(complex(5, minus), complex(minus, minus)), list(complex(minus, 0), complex(5, 0)), 1, true},
		{list(complex(minus, 7), 0), list(complex(0, 7), 0), 0, true},
		{list(1<<60, 0.25), list(1<<60, 0.25), 0, true},
	} {
		// Directions count by themselves alone, whatever they are.
		for _, along := range []api.Dir{{P: 1}, {}, {P: 2, Q: 2}, {P: math.MinInt, Q: -3}} {
			checkDrift(t, api.Proj{Dir: along, Bins: c.a}, api.Proj{Dir: along, Bins: c.b}, c.want, c.found)
			for _, other := range []api.Dir{{P: 1, Q: 1}, {Q: 1}, {P: -1}, {P: 1, Q: math.MaxInt}} {
				checkDrift(t, api.Proj{Dir: along, Bins: c.a}, api.Proj{Dir: other, Bins: c.b}, 0, false)
			}
		}
	}
}

// P20.1: two of all kinds of bins against each other: the first of all numbers that fit, or none.
func TestDrift(t *testing.T) {
	d := sample.Dice(216)
	several, found, none := 0, 0, 0
	check := func(a, b api.Proj) {
		t.Helper()
		all := drifts(a, b)
		if len(all) == 0 {
			none++
			checkDrift(t, a, b, 0, false)
			return
		}
		found++
		if len(all) > 2 {
			several++
		}
		checkDrift(t, a, b, all[0], true)
	}
	for many := 1; many <= 24; many++ {
		for _, list := range bins(many, &d) {
			a := api.Proj{Dir: api.Dir{P: 3, Q: 2}, Bins: list}
			check(a, a)
			check(a, api.Proj{Dir: a.Dir, Bins: make([]complex128, many)})
			check(api.Proj{Dir: a.Dir, Bins: make([]complex128, many)}, a)
			for _, by := range shoves(many) {
				if b, e := slidBy(a, by); e == api.OK {
					check(a, b)
					check(b, a)
					b.Bins[d.Number(many-1)] = complex(d.UpTo(1)(), 0)
					check(a, b)
				}
			}
		}
	}
	// All lists of few bins of few values.
	few := func(many, number int) api.Proj {
		out := api.Proj{Dir: api.Dir{Q: 1}}
		for range many {
			out.Bins, number = append(out.Bins, complex(float64(number%3), 0)), number/3
		}
		return out
	}
	for many, total := range []int{1, 3, 9, 27, 81} {
		for i := range total {
			for j := range total {
				check(few(many, i), few(many, j))
			}
		}
	}
	if several < 100 || found < 5000 || none < 5000 {
		t.Errorf("the samples are too much alike: %d fit, %d of them several times, %d do not", found, several, none)
	}
}

// P20.1: bins may be more than any grid has.
func TestDriftOfManyBins(t *testing.T) {
	const many = 300000
	for _, c := range []struct{ from, to int }{{0, many - 1}, {many - 1, 0}, {1000, 200000}, {123456, 123456}} {
		t.Run(fmt.Sprint(c), func(t *testing.T) {
			a, b := api.Proj{Bins: make([]complex128, many)}, api.Proj{Bins: make([]complex128, many)}
			a.Bins[c.from], b.Bins[c.to] = 2-7i, 2-7i
			checkDrift(t, a, b, c.to-c.from, true)
			b.Bins[many/3] += 1i
			checkDrift(t, a, b, 0, false)
		})
	}
}
