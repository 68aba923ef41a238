package wave_test

import (
	"math"

	"penumbra/root"
)

// The chapter's rules as they stand, by plain arithmetic on parts.

func add(a, b complex128) complex128 { return complex(real(a)+real(b), imag(a)+imag(b)) }
func sub(a, b complex128) complex128 { return complex(real(a)-real(b), imag(a)-imag(b)) }

func mul(a, b complex128) complex128 {
	p, q, u, v := real(a), imag(a), real(b), imag(b)
	return complex(float64(p*u)-float64(q*v), float64(p*v)+float64(q*u))
}

func rootAt(n, k int) complex128 {
	a, _ := root.Root(n, k)
	return a
}

// weight: the conjugate of a root, its noughts without a sign.
func weight(n, k int) complex128 {
	a := rootAt(n, k)
	if imag(a) == 0 {
		return complex(real(a), 0)
	}
	return complex(real(a), -imag(a))
}

func byHalves(x []complex128, w func(n, k int) complex128) []complex128 {
	n := len(x)
	if n == 1 {
		return []complex128{x[0]}
	}
	var even, odd []complex128
	for j, a := range x {
		if j%2 == 0 {
			even = append(even, a)
		} else {
			odd = append(odd, a)
		}
	}
	e, o := byHalves(even, w), byHalves(odd, w)
	out := make([]complex128, n)
	for k := range n / 2 {
		t := mul(w(n, k), o[k])
		out[k] = add(e[k], t)
		out[k+n/2] = sub(e[k], t)
	}
	return out
}

func forward(x []complex128) []complex128 { return byHalves(x, weight) }

func back(y []complex128) []complex128 {
	n := float64(len(y))
	out := byHalves(y, rootAt)
	for k, a := range out {
		out[k] = complex(real(a)/n, imag(a)/n)
	}
	return out
}

func direct(x []complex128) []complex128 {
	n := len(x)
	out := make([]complex128, n)
	for k := range n {
		sum := complex(0, 0)
		for j, a := range x {
			sum = add(sum, mul(a, weight(n, j*k%n)))
		}
		out[k] = sum
	}
	return out
}

// wholePart: the nearest whole number, told by the floor and what lies above it.
func wholePart(x float64) float64 {
	if math.IsNaN(x) || math.IsInf(x, 0) {
		return x
	}
	low := math.Floor(x)
	above := x - low
	if above > 0.5 || above == 0.5 && math.Mod(low, 2) != 0 {
		low++
	}
	if low == 0 {
		return 0
	}
	return low
}
