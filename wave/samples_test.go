package wave_test

import (
	"math"

	"penumbra/api"
)

var minus = math.Copysign(0, -1)

// A dice gives bits in a fixed order, so that a failure comes again.
type dice uint64

func (d *dice) word() uint64 {
	*d += 0x9e3779b97f4a7c15
	z := uint64(*d)
	z = (z ^ z>>30) * 0xbf58476d1ce4e5b9
	z = (z ^ z>>27) * 0x94d049bb133111eb
	return z ^ z>>31
}

// list: n numbers, each part as part tells it.
func (d *dice) list(n int, part func() float64) []complex128 {
	out := make([]complex128, n)
	for j := range out {
		out[j] = complex(part(), part())
	}
	return out
}

// anyBits: infinities, NaNs, everything.
func (d *dice) anyBits() float64 { return math.Float64frombits(d.word()) }

// near: between 1 and 2 either way, so that nearly every product and sum is rounded.
func (d *dice) near() float64 { return math.Float64frombits(d.word()&(1<<63|1<<52-1) | 1023<<52) }

// between: sizes from 2 to the low on, below 2 to the high, either way; now and then a nought, with and without a sign.
func (d *dice) between(low, high int) func() float64 {
	return func() float64 {
		switch d.word() % 16 {
		case 0:
			return 0
		case 1:
			return minus
		}
		return math.Ldexp(d.near(), low+int(d.word()%uint64(high-low)))
	}
}

// whole: whole numbers with parts from -2^20 to 2^20.
func (d *dice) whole() float64 { return float64(int(d.word()%(2*api.MaxPart+1)) - api.MaxPart) }

// edge: noughts, infinities, NaNs, and the least and greatest numbers there are.
func (d *dice) edge() float64 {
	edges := []float64{0, minus, 0, minus, 1, -1, 0x1p-1074, -0x1p-1074, 0x3p-1074, 0x1p-1022, math.MaxFloat64, -math.MaxFloat64, math.Inf(1), math.Inf(-1), math.NaN(), math.Float64frombits(0xfff0000000000001)}
	return edges[d.word()%uint64(len(edges))]
}

// tiny: no normal numbers, so that what the way back scales is rounded once more.
func (d *dice) tiny() float64 { return math.Float64frombits(d.word() & (1<<63 | 1<<52 - 1)) }

// sign: noughts alone, with and without a sign.
func (d *dice) sign() float64 { return math.Copysign(0, float64(int64(d.word()))) }

// lengths: every one there is.
func lengths() []int {
	var out []int
	for n := 1; n <= api.MaxLen; n *= 2 {
		out = append(out, n)
	}
	return out
}

// wrong: no lengths.
func wrong() []int {
	out := []int{0, 2 * api.MaxLen, 4 * api.MaxLen, 1 << 16}
	for n := range 2 * api.MaxLen {
		if n&(n-1) != 0 && (n < 70 || n%61 == 0 || (n+1)&n == 0 || (n-1)&(n-2) == 0) {
			out = append(out, n)
		}
	}
	return out
}

// lists: of length n, of every kind.
func lists(n int) [][]complex128 {
	d := dice(n)
	out := [][]complex128{make([]complex128, n)}
	for _, part := range []func() float64{d.anyBits, d.near, d.between(-1074, 400), d.between(-5, 5), d.whole, d.edge, d.tiny, d.sign} {
		out = append(out, d.list(n, part))
	}
	// One number that is not finite, at the first place, the last one and between.
	for i, j := range []int{0, n / 2, n - 1} {
		for _, x := range []float64{math.Inf(1), math.Inf(-1), math.NaN()} {
			list := d.list(n, d.near)
			list[j] = complex(x, 3)
			if i == 1 {
				list[j] = complex(0, x)
			}
			out = append(out, list)
		}
	}
	return out
}

// wholes: lists of whole numbers, random ones and those with the greatest sums and differences.
func wholes(n int) [][]complex128 {
	d := dice(n + 1)
	out := [][]complex128{make([]complex128, n), d.list(n, d.whole), d.list(n, d.whole)}
	for _, most := range []complex128{complex(api.MaxPart, api.MaxPart), complex(-api.MaxPart, -api.MaxPart), complex(-api.MaxPart, api.MaxPart), complex(api.MaxPart, 0)} {
		for stride := 1; stride <= n; stride *= 2 {
			list := make([]complex128, n)
			for j := range list {
				list[j] = most
				if j/stride%2 == 1 {
					list[j] = complex(0-real(most), 0-imag(most))
				}
			}
			out = append(out, list)
		}
		list := make([]complex128, n)
		for j := range list {
			list[j] = most
		}
		out = append(out, list)
	}
	extremes := func() float64 { return float64(int(d.word()%3)-1) * api.MaxPart }
	return append(out, d.list(n, extremes), d.list(n, extremes))
}

// agree: the same bits in each part, where a NaN came out any NaN.
func agree(a, b complex128) bool {
	return agreePart(real(a), real(b)) && agreePart(imag(a), imag(b))
}

func agreePart(x, y float64) bool {
	return math.Float64bits(x) == math.Float64bits(y) || x != x && y != y
}

// bits: of every part, to hold lists against each other with their NaNs.
func bits(list []complex128) []uint64 {
	var out []uint64
	for _, a := range list {
		out = append(out, math.Float64bits(real(a)), math.Float64bits(imag(a)))
	}
	return out
}
