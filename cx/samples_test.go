package cx_test

import (
	"math"
	"math/big"

	"penumbra/sample"
)

var minus = sample.MinusNought()

// parts: ordinary ones, and every edge that the chapter names.
func parts() []float64 {
	out := []float64{0, 1, 2, 3, 0.5, 0.1, 7.25, 1 + 0x1p-30, 1 - 0x1p-30, 1 + 0x1p-52, 1 << 25, 1 << 53, 1<<53 + 2, 1 << 63, 1e300, 1e-300, 0x1p-1074, 0x3p-1074, 0x1p-1022, 0x1p-1022 - 0x1p-1074, 0x1p-537, math.MaxFloat64, math.MaxFloat32, math.Inf(1)}
	for _, x := range out {
		out = append(out, -x)
	}
	out[len(out)/2] = minus
	return append(out, nans()...)
}

// nans: quiet and signalling ones, with either sign, with the least and the most bits.
func nans() []float64 {
	var out []float64
	for _, bits := range []uint64{0x7ff8000000000000, 0x7ff8000000000001, 0x7ff0000000000001, 0x7fffffffffffffff, 0xfff8000000000000, 0xfff0000000000001, 0xffffffffffffffff, 0x7ff4000000abcdef} {
		out = append(out, math.Float64frombits(bits))
	}
	return out
}

func numbers() []complex128 {
	var out []complex128
	for _, p := range parts() {
		for _, q := range parts() {
			out = append(out, complex(p, q))
		}
	}
	return out
}

// some: few enough numbers for every triple of them.
func some() []complex128 {
	all := numbers()
	var out []complex128
	for i := 0; i < len(all); i += 67 {
		out = append(out, all[i])
	}
	return out
}

func powers() []int {
	return []int{math.MinInt, math.MinInt + 1, -1 << 40, -2202, -2201, -2200, -2199, -1100, -1075, -1074, -1022, -53, -5, -4, -3, -2, -1, 0, 1, 2, 3, 4, 5, 53, 1023, 1024, 2098, 2199, 2200, 2201, 2202, 1 << 40, math.MaxInt - 1, math.MaxInt}
}

type pair struct{ p, q uint64 }

func bits(a complex128) pair {
	return pair{math.Float64bits(real(a)), math.Float64bits(imag(a))}
}

// unsigned: noughts lose their sign, for the laws that hold but for it.
func unsigned(a complex128) complex128 {
	p, q := real(a), imag(a)
	if p == 0 {
		p = 0
	}
	if q == 0 {
		q = 0
	}
	return complex(p, q)
}

func finite(x float64) bool { return !math.IsNaN(x) && !math.IsInf(x, 0) }

func exact(x float64) *big.Float { return new(big.Float).SetPrec(4400).SetFloat64(x) }

// The next three work an operation out without loss and round once; where an infinity or a NaN takes part there is nothing to round.

func plus(x, y float64) float64 {
	if !finite(x) || !finite(y) {
		return x + y
	}
	out, _ := new(big.Float).SetPrec(4400).Add(exact(x), exact(y)).Float64()
	return out
}

func less(x, y float64) float64 {
	if !finite(x) || !finite(y) {
		return x - y
	}
	out, _ := new(big.Float).SetPrec(4400).Sub(exact(x), exact(y)).Float64()
	return out
}

func times(x, y float64) float64 {
	if !finite(x) || !finite(y) {
		return x * y
	}
	out, _ := new(big.Float).SetPrec(4400).Mul(exact(x), exact(y)).Float64()
	return out
}

// lifted: x times 2 to the k, rounded once; k is small enough for big.Float.
func lifted(x float64, k int) float64 {
	if !finite(x) {
		return x
	}
	out, _ := new(big.Float).SetMantExp(exact(x), k).Float64()
	return out
}

// A dice is the tests' common one, giving both parts of a number at once.
type dice struct{ sample.Dice }

// number: any bits at all.
func (d *dice) number() complex128 { return complex(d.AnyBits(), d.AnyBits()) }

// near: parts between 1 and 2 either way, whose products and sums are nearly always rounded.
func (d *dice) near() complex128 { return complex(d.Near(), d.Near()) }

// whole: parts from -most to most.
func (d *dice) whole(most int64) complex128 {
	part := func() float64 { return float64(int64(d.Word()%uint64(2*most+1)) - most) }
	return complex(part(), part())
}
