package motion_test

import (
	"fmt"
	"math"
	"math/big"
	"testing"

	"penumbra/api"
	"penumbra/motion"
	"penumbra/sample"
)

// boxed: a grid whose cells that aren't 0 lie in a part of it, so that it may be moved; the part is drawn, and its cells are as part tells them.
func boxed(n int, d *sample.Dice, part func() float64) api.Grid {
	left, top := d.Number(n-1), d.Number(n-1)
	right, bottom := left+d.Number(n-1-left), top+d.Number(n-1-top)
	g := sample.Filled(n, 0)
	for y := top; y <= bottom; y++ {
		for x := left; x <= right; x++ {
			g.Cells[y*n+x] = complex(part(), part())
		}
	}
	return g
}

// dot: a grid with one cell that isn't 0.
func dot(n, x, y int, v complex128) api.Grid { return sample.With(sample.Filled(n, 0), y*n+x, v) }

// grids: of side n: with cells in a part of them, with one cell, without any, full ones.
func grids(n int, d *sample.Dice) []api.Grid {
	all := sample.Grids(n)
	return []api.Grid{
		boxed(n, d, d.UpTo(9)), boxed(n, d, d.Whole), boxed(n, d, d.UpTo(1)), boxed(n, d, d.Extreme),
		dot(n, d.Number(n-1), d.Number(n-1), 5-1i), all[0], all[d.Number(len(all)-1)],
	}
}

// unit: a step for which Q*X - P*Y is 1; there is one, since P and Q have no divisor in common.
func unit(d api.Dir) api.Step {
	for x := -api.MaxStep; ; x++ {
		for y := -api.MaxStep; y <= api.MaxStep; y++ {
			if d.Q*x-d.P*y == 1 {
				return api.Step{X: x, Y: y}
			}
		}
	}
}

// solved: a step for which Q*X - P*Y is that number, if there is one in int.
func solved(d api.Dir, want *big.Int) (api.Step, bool) {
	times := func(a *big.Int, v int) *big.Int { return new(big.Int).Mul(a, big.NewInt(int64(v))) }
	one := unit(d)
	x, y := times(want, one.X), times(want, one.Y)
	// Along the direction it may stand anywhere: nearest to (0, 0) it is least.
	along := new(big.Int).Add(times(x, d.P), times(y, d.Q))
	along.Div(along, big.NewInt(int64(d.P*d.P+d.Q*d.Q)))
	x.Sub(x, times(along, d.P))
	y.Sub(y, times(along, d.Q))
	return api.Step{X: int(x.Int64()), Y: int(y.Int64())}, x.IsInt64() && y.IsInt64()
}

// alike: the step, and others that move bins as far along that direction: as far off as int goes, one way and the other.
func alike(d api.Dir, s api.Step) []api.Step {
	out := []api.Step{s}
	for _, times := range []int{1 << 40, math.MaxInt/api.MaxStep - 5, -(math.MaxInt/api.MaxStep - 5)} {
		other := api.Step{X: s.X + times*d.P, Y: s.Y + times*d.Q}
		if far(d, other).Cmp(far(d, s)) == 0 { // else a sum has gone round
			out = append(out, other)
		}
	}
	return out
}

// lists: of directions: none (both ways of saying it), one, some, and now and then as many as there may be.
func lists(n int, d *sample.Dice) [][]api.Dir {
	out := [][]api.Dir{nil, {}, d.Picked(sample.Dirs(), 1), d.Picked(sample.Wheel(), 2), d.Picked(sample.Short(), 5)}
	if n%21 == 1 {
		out = append(out, d.Picked(sample.Wheel(), 64), sample.Wheel()[n:n+64])
	}
	return out
}

// edged: bins with some at both ends that are noughts, with and without a sign, so that they may be moved on; the others are as part tells them.
func edged(many int, d *sample.Dice, part func() float64) []complex128 {
	out := d.List(many, d.Sign)
	from := d.Number(many - 1)
	for i := from; i <= from+d.Number(many-1-from); i++ {
		out[i] = complex(part(), part())
	}
	return out
}

// ownNaN: what is not a number, with bits of its own.
func ownNaN(d *sample.Dice) func() float64 {
	return func() float64 { return math.Float64frombits(d.Word() | 0x7ff0<<48) }
}

// shoves: by how many bins may be moved on: none, one, up to all of them and beyond, and the ends of int.
func shoves(many int) []int {
	return append(sample.Ends(), 0, 1, -1, 2, -2, many/2, -many/2, many-1, 1-many, many, -many, many+1, -many-1, 2*many, 1<<32-many)
}

// about: names a call for a failure.
func about(n int, dirs []api.Dir, steps []api.Step) string {
	return fmt.Sprintf("side %d, along %v .., %d steps %v ..", n, dirs[:min(len(dirs), 3)], len(steps), steps[:min(len(steps), 3)])
}

// sameSino, sameProj: is that what is told, bit by bit, and with an error nothing beside it?
func sameSino(t *testing.T, name string, got api.Sino, e api.Errno, want api.Sino, wantErr api.Errno) {
	t.Helper()
	if e != wantErr || !sample.SameSino(got, want) {
		t.Fatalf("%s: error %d, not %d, or not the projections: %v, not %v", name, e, wantErr, got, want)
	}
}

func sameProj(t *testing.T, name string, got api.Proj, e api.Errno, want api.Proj, wantErr api.Errno) {
	t.Helper()
	if e != wantErr || !sample.SameProj(got, want) {
		t.Fatalf("%s: error %d, not %d, or not the bins: %v, not %v", name, e, wantErr, got, want)
	}
}

// checkTake: is that what Take tells?
func checkTake(t *testing.T, g api.Grid, dirs []api.Dir, steps []api.Step, want api.Sino, wantErr api.Errno) {
	t.Helper()
	got, e := motion.Take(g, dirs, steps)
	sameSino(t, "Take, "+about(g.N, dirs, steps), got, e, want, wantErr)
}

// checkUndo: is that what Undo tells?
func checkUndo(t *testing.T, s api.Sino, steps []api.Step, want api.Sino, wantErr api.Errno) {
	t.Helper()
	got, e := motion.Undo(s, steps)
	sameSino(t, "Undo, "+about(s.N, dirsOf(s), steps), got, e, want, wantErr)
}

// checkSlide: is that what Slide tells?
func checkSlide(t *testing.T, n int, p api.Proj, by int, want api.Proj, wantErr api.Errno) {
	t.Helper()
	got, e := motion.Slide(n, p, by)
	sameProj(t, fmt.Sprintf("Slide, side %d, along %v, %d bins, by %d", n, p.Dir, len(p.Bins), by), got, e, want, wantErr)
}

// checkDrift: is that what Drift tells?
func checkDrift(t *testing.T, a, b api.Proj, want int, wantFound bool) {
	t.Helper()
	if k, found := motion.Drift(a, b); k != want || found != wantFound {
		t.Fatalf("Drift, along %v and %v, %d and %d bins: %d, %v, not %d, %v", a.Dir, b.Dir, len(a.Bins), len(b.Bins), k, found, want, wantFound)
	}
}

func dirsOf(s api.Sino) []api.Dir {
	var out []api.Dir
	for _, p := range s.Projs {
		out = append(out, p.Dir)
	}
	return out
}
