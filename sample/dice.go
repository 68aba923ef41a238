// Package sample gives the tests of all layers their numbers, directions, grids, phantoms, projections, steps and missing places: ordinary ones, edges, and any bits, always the same ones in the same order, so that a failure comes again. The program itself does not import it.
package sample

import (
	"math"

	"penumbra/api"
)

// A Dice gives bits in a fixed order, which hangs on its first value.
type Dice uint64

// Word: the next 64 bits.
func (d *Dice) Word() uint64 {
	*d += 0x9e3779b97f4a7c15
	z := uint64(*d)
	z = (z ^ z>>30) * 0xbf58476d1ce4e5b9
	z = (z ^ z>>27) * 0x94d049bb133111eb
	return z ^ z>>31
}

// Number: a whole one from 0 to most.
func (d *Dice) Number(most int) int { return int(d.Word() % uint64(most+1)) }

// List: n numbers, each part as part tells it.
func (d *Dice) List(n int, part func() float64) []complex128 {
	out := make([]complex128, n)
	for j := range out {
		out[j] = complex(part(), part())
	}
	return out
}

// AnyBits: infinities, NaNs, everything.
func (d *Dice) AnyBits() float64 { return math.Float64frombits(d.Word()) }

// Near: between 1 and 2 either way, so that nearly every product and sum is rounded.
func (d *Dice) Near() float64 { return math.Float64frombits(d.Word()&(1<<63|1<<52-1) | 1023<<52) }

// Between: sizes from 2 to the low on, below 2 to the high, either way; now and then a nought, with and without a sign.
func (d *Dice) Between(low, high int) func() float64 {
	return func() float64 {
		switch d.Word() % 16 {
		case 0:
			return 0
		case 1:
			return MinusNought()
		}
		return math.Ldexp(d.Near(), low+int(d.Word()%uint64(high-low)))
	}
}

// Whole: whole numbers from -2^20 to 2^20.
func (d *Dice) Whole() float64 { return float64(int(d.Word()%(2*api.MaxPart+1)) - api.MaxPart) }

// UpTo: whole numbers from -most to most.
func (d *Dice) UpTo(most int) func() float64 {
	return func() float64 { return float64(int(d.Word()%uint64(2*most+1)) - most) }
}

// Extreme: -2^20, 0 and 2^20.
func (d *Dice) Extreme() float64 { return float64((int(d.Word()%3) - 1) * api.MaxPart) }

// Greatest: -2^400, 0 and 2^400.
func (d *Dice) Greatest() float64 { return math.Ldexp(float64(int(d.Word()%3)-1), 400) }

// Edge: noughts, infinities, NaNs, and the least and greatest numbers there are.
func (d *Dice) Edge() float64 {
	edges := []float64{0, MinusNought(), 0, MinusNought(), 1, -1, 0x1p-1074, -0x1p-1074, 0x3p-1074, 0x1p-1022, math.MaxFloat64, -math.MaxFloat64, math.Inf(1), math.Inf(-1), math.NaN(), math.Float64frombits(0xfff0000000000001)}
	return edges[d.Word()%uint64(len(edges))]
}

// Tiny: no normal numbers, so that what is scaled down is rounded once more.
func (d *Dice) Tiny() float64 { return math.Float64frombits(d.Word() & (1<<63 | 1<<52 - 1)) }

// Sign: noughts alone, with and without a sign.
func (d *Dice) Sign() float64 { return math.Copysign(0, float64(int64(d.Word()))) }

// MinusNought: Go's constants have none.
func MinusNought() float64 { return math.Copysign(0, -1) }
