package sample

import (
	"math"

	"penumbra/api"
)

// Lists: of n numbers (one at least), of every kind.
func Lists(n int) [][]complex128 {
	d := Dice(n)
	out := [][]complex128{make([]complex128, n)}
	for _, part := range []func() float64{d.AnyBits, d.Near, d.Between(-1074, 400), d.Between(-5, 5), d.Whole, d.Edge, d.Tiny, d.Sign} {
		out = append(out, d.List(n, part))
	}
	// One number that is not finite, at the first place, the last one and between.
	for i, j := range []int{0, n / 2, n - 1} {
		for _, x := range []float64{math.Inf(1), math.Inf(-1), math.NaN()} {
			list := d.List(n, d.Near)
			list[j] = complex(x, 3)
			if i == 1 {
				list[j] = complex(0, x)
			}
			out = append(out, list)
		}
	}
	return out
}

// Wholes: lists of n whole numbers with parts of at most 2^20, random ones and those with the greatest sums and differences.
func Wholes(n int) [][]complex128 {
	d := Dice(n + 1)
	out := [][]complex128{make([]complex128, n), d.List(n, d.Whole), d.List(n, d.Whole)}
	for _, most := range []complex128{complex(api.MaxPart, api.MaxPart), complex(-api.MaxPart, -api.MaxPart), complex(-api.MaxPart, api.MaxPart), complex(api.MaxPart, 0)} {
		for stride := 1; stride < 2*n; stride *= 2 { // the last stride has no change of sign
			out = append(out, striped(n, stride, most))
		}
	}
	return append(out, d.List(n, d.Extreme), d.List(n, d.Extreme))
}

// striped: a and its negative by turns, each for a stride, with no nought that has a sign.
func striped(n, stride int, a complex128) []complex128 {
	out := make([]complex128, n)
	for j := range out {
		out[j] = a
		if j/stride%2 == 1 {
			out[j] = complex(0-real(a), 0-imag(a))
		}
	}
	return out
}

// Finite: lists of n numbers with parts of at most 2^400, the greatest size itself among them.
func Finite(n int) [][]complex128 {
	d := Dice(n + 2)
	out := Wholes(n)
	for _, part := range []func() float64{d.Near, d.Between(-1074, 400), d.Between(-20, 20), d.Between(390, 400), d.Tiny, d.Sign, d.Greatest} {
		out = append(out, d.List(n, part))
	}
	return append(out, striped(n, n, complex(0x1p400, -0x1p400)))
}
