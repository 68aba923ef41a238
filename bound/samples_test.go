package bound_test

import (
	"fmt"
	"slices"
	"testing"

	"penumbra/api"
	"penumbra/bound"
	"penumbra/sample"
)

// A job is what Run is handed.
type job struct {
	n      int
	projs  []api.Proj
	lo, hi []int
}

func (j job) String() string {
	name := fmt.Sprintf("side %d, %d and %d bounds, %d projections along", j.n, len(j.lo), len(j.hi), len(j.projs))
	for _, p := range j.projs[:min(len(j.projs), 4)] {
		name += fmt.Sprint(" ", p.Dir)
	}
	return name
}

// noSmalls: what is no side of a grid that has bounds.
func noSmalls() []int { return append(sample.NoSides(), 17, 18, 32, 63, 64) }

// noLevels: what is none.
func noLevels() []int {
	return append(sample.Ends(), -256, -255, -2, -1, 256, 257, 511, 512, 65535, 65536, 1<<32, 1<<32+5)
}

// filled: so many of one number.
func filled(many, v int) []int { return slices.Repeat([]int{v}, many) }

// with: the list, but for one place.
func with(list []int, place, v int) []int {
	out := slices.Clone(list)
	out[place] = v
	return out
}

// drawnLevels: of a grid of side n, from least to most.
func drawnLevels(n int, d *sample.Dice, least, most int) []int {
	out := make([]int, n*n)
	for place := range out {
		out[place] = least + int(d.Word()%uint64(most-least+1))
	}
	return out
}

// aGrid: levels of one kind or another: all kinds, few of them, the ends, a lone one, all the same.
func aGrid(n int, d *sample.Dice) []int {
	switch d.Word() % 8 {
	case 0:
		return drawnLevels(n, d, 0, 1)
	case 1:
		return drawnLevels(n, d, 254, 255)
	case 2:
		out := drawnLevels(n, d, 0, 1)
		for place := range out {
			out[place] *= 255
		}
		return out
	case 3:
		return with(filled(n*n, 0), int(d.Word()%uint64(n*n)), 1+int(d.Word()%255))
	case 4:
		return filled(n*n, int(d.Word()%256))
	}
	return drawnLevels(n, d, 0, 255)
}

// around: bounds within which those levels are, at most so far away either way.
func around(levels []int, d *sample.Dice, far int) (lo, hi []int) {
	for _, v := range levels {
		lo = append(lo, max(v-int(d.Word()%uint64(far+1)), 0))
		hi = append(hi, min(v+int(d.Word()%uint64(far+1)), 255))
	}
	return lo, hi
}

// gridOf: levels as cells.
func gridOf(n int, levels []int) api.Grid {
	g := sample.Filled(n, 0)
	for place, v := range levels {
		g.Cells[place] = complex(float64(v), 0)
	}
	return g
}

// seen: the projections of levels.
func seen(n int, levels []int, dirs []api.Dir) []api.Proj {
	return sample.Seen(gridOf(n, levels), dirs).Projs
}

// summed: a projection along each direction, each bin as it is told, its second part 0.
func summed(n int, dirs []api.Dir, bin func() int) []api.Proj {
	out := sample.Blanks(n, dirs).Projs
	for _, p := range out {
		for k := range p.Bins {
			p.Bins[k] = complex(float64(bin()), 0)
		}
	}
	return out
}

// off: the projections, but that some of their bins are greater or less by a little, never below 0.
func off(projs []api.Proj, d *sample.Dice, times int) []api.Proj {
	out := sample.CopySino(api.Sino{Projs: projs}).Projs
	for range times {
		if len(out) > 0 {
			bins := out[d.Word()%uint64(len(out))].Bins
			at := &bins[d.Word()%uint64(len(bins))]
			*at = complex(max(real(*at)+d.UpTo(2)(), 0), 0)
		}
	}
	return out
}

// ordered: the projections in another order, as the dice fall.
func ordered(projs []api.Proj, d *sample.Dice) []api.Proj {
	out := slices.Clone(projs)
	for i := len(out) - 1; i > 0; i-- {
		j := int(d.Word() % uint64(i+1))
		out[i], out[j] = out[j], out[i]
	}
	return out
}

// few: lists of directions for a grid of side n: those of Along, and some of short steps, of which lines have many cells.
func few(d *sample.Dice) [][]api.Dir {
	out := sample.Along()
	for many := 2; many <= 6; many++ {
		out = append(out, d.Picked(sample.Short(), many), d.Picked(sample.Short()[:6], many), d.Picked(sample.Dirs(), many))
	}
	return append(out, []api.Dir{{P: 1}, {Q: 1}}, []api.Dir{{Q: 1}, {P: 1}}, []api.Dir{{P: 1}, {Q: 1}, {P: 1, Q: 1}, {P: -1, Q: 1}})
}

// wide: the widest bounds there are.
func wide(n int) (lo, hi []int) { return filled(n*n, 0), filled(n*n, 255) }

// run: the bounds that must be there.
func run(t *testing.T, j job) (lo, hi []int) {
	t.Helper()
	lo, hi, e := bound.Run(j.n, j.projs, j.lo, j.hi)
	if e != api.OK {
		t.Fatalf("%v: error %d", j, e)
	}
	return lo, hi
}

// check: is that what Run tells?
func check(t *testing.T, j job, want answer) {
	t.Helper()
	lo, hi, e := bound.Run(j.n, j.projs, j.lo, j.hi)
	if e != want.e || !slices.Equal(lo, want.lo) || !slices.Equal(hi, want.hi) {
		t.Fatalf("%v, from %v to %v: %v to %v, error %d, not %v to %v, error %d in sweep %d", j, j.lo, j.hi, lo, hi, e, want.lo, want.hi, want.e, want.sweeps)
	}
}

// refused: it tells that error, and nothing beside it.
func refused(t *testing.T, j job, want api.Errno) {
	t.Helper()
	lo, hi, e := bound.Run(j.n, j.projs, j.lo, j.hi)
	if e != want || len(lo) != 0 || len(hi) != 0 {
		t.Fatalf("%v: error %d, not %d, or something beside it", j, e, want)
	}
}

// within: are the bounds inside of others?
func within(lo, hi, low, high []int) bool {
	for place := range low {
		if lo[place] < low[place] || hi[place] > high[place] {
			return false
		}
	}
	return len(lo) == len(low) && len(hi) == len(high)
}
