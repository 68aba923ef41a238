package back_test

import (
	"math"
	"slices"
	"testing"

	"penumbra/api"
	"penumbra/cx"
	"penumbra/sample"
)

// wholes: lists of projections with whole bins of parts of at most 2^32: small ones, all sizes, and the greatest with either sign, by turns and all alike.
func wholes(n int, d *sample.Dice, dirs []api.Dir) [][]api.Proj {
	greatest := func() float64 { return float64((int(d.Word()%3) - 1) * api.MaxBin) }
	ends := func() float64 { return float64((1 - 2*int(d.Word()%2)) * api.MaxBin) }
	most := func() float64 { return api.MaxBin }
	least := func() float64 { return -api.MaxBin }
	var out [][]api.Proj
	for _, part := range []func() float64{d.UpTo(1), d.UpTo(1000), d.UpTo(api.MaxBin), greatest, ends, most, least} {
		out = append(out, projs(n, dirs, part))
	}
	return out
}

// added: cell by cell.
func added(a, b api.Grid) api.Grid {
	out := sample.Filled(a.N, 0)
	for place := range out.Cells {
		out.Cells[place] = cx.Add(a.Cells[place], b.Cells[place])
	}
	return out
}

// P17.3: what is laid back from a list and another one behind it is the sum of both, bit by bit, wherever a list is parted.
func TestJoined(t *testing.T) {
	d := sample.Dice(181)
	for _, n := range sample.ManySides() {
		for k, dirs := range sample.Along() {
			if n > 16 && (n+k)%4 != 0 {
				continue
			}
			for _, given := range wholes(n, &d, dirs) {
				whole := all(t, n, given)
				for _, at := range []int{0, 1, len(given) / 3, len(given) / 2, len(given) - 1, len(given)} {
					if at >= 0 && at <= len(given) {
						checkField(t, about(n, given), whole, added(all(t, n, given[:at]), all(t, n, given[at:])))
					}
				}
			}
		}
	}
}

// P17.3: so is a list behind itself, and behind its negative 0.
func TestBehindItself(t *testing.T) {
	d := sample.Dice(182)
	for _, n := range sample.Sides() {
		for _, given := range wholes(n, &d, sample.Dirs()) {
			once := all(t, n, given)
			checkField(t, about(n, given), all(t, n, slices.Concat(given, given)), added(once, once))
			opposite := sample.CopySino(api.Sino{N: n, Projs: given}).Projs
			for _, p := range opposite {
				for bin, v := range p.Bins {
					p.Bins[bin] = cx.Sub(0, v)
				}
			}
			checkField(t, about(n, given), all(t, n, slices.Concat(given, opposite)), sample.Filled(n, 0))
		}
	}
}

// P17.3: the order of the projections doesn't matter: all orders of few, some of many.
func TestAnyOrder(t *testing.T) {
	d := sample.Dice(183)
	for _, n := range []int{1, 2, 5, 16} {
		for _, given := range wholes(n, &d, []api.Dir{{P: 3, Q: 2}, {P: 1}, {P: 3, Q: 2}, {P: -1, Q: 16}}) {
			want := all(t, n, given)
			places := []api.Dir{{P: 0}, {P: 1}, {P: 2}, {P: 3}} // not directions but which projection stands there
			for _, order := range sample.Orders(places) {
				var other []api.Proj
				for _, at := range order {
					other = append(other, given[at.P])
				}
				checkField(t, about(n, other), all(t, n, other), want)
			}
		}
	}
	for _, n := range sample.ManySides() {
		for k, dirs := range sample.Along() {
			given := wholes(n, &d, dirs)[(n+k)%7]
			want := all(t, n, given)
			for range 3 {
				other := slices.Clone(given)
				slices.Reverse(other)
				for i := range other {
					j := i + int(d.Word()%uint64(len(other)-i))
					other[i], other[j] = other[j], other[i]
				}
				checkField(t, about(n, other), all(t, n, other), want)
			}
		}
	}
}

// turned: each number times the k-th power of i.
func turned(list []complex128, k int) []complex128 {
	out := make([]complex128, len(list))
	for j, v := range list {
		out[j] = cx.Turn(v, k)
	}
	return out
}

// P17.3: with all bins turned the field is turned; a nought has no sign in a field, so that both are held against each other without.
func TestTurned(t *testing.T) {
	d := sample.Dice(184)
	for _, n := range sample.ManySides() {
		for i, dirs := range sample.Along() {
			for j, given := range wholes(n, &d, dirs) {
				if n > 16 && (i+j)%3 != 0 {
					continue
				}
				field := all(t, n, given)
				for _, k := range []int{1, 2, 3, -1, math.MinInt, math.MaxInt} {
					var other []api.Proj
					for _, p := range given {
						other = append(other, api.Proj{Dir: p.Dir, Bins: turned(p.Bins, k)})
					}
					got := all(t, n, other)
					for place, v := range turned(field.Cells, k) {
						if got.Cells[place] != v {
							t.Fatalf("%s, turned %d times, cell %d: %v, not %v", about(n, given), k, place, got.Cells[place], v)
						}
					}
				}
			}
		}
	}
}
