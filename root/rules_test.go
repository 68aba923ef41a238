package root_test

import (
	"math"
	"math/big"

	"penumbra/api"
	"penumbra/cx"
)

// exact holds a float64; what is worked out from such numbers has 53 bits too, and so is rounded by itself.
func exact(x float64) *big.Float { return new(big.Float).SetPrec(53).SetFloat64(x) }

func rounded(x *big.Float) float64 {
	out, _ := x.Float64()
	return out
}

func plus(x, y float64) float64  { return rounded(exact(0).Add(exact(x), exact(y))) }
func less(x, y float64) float64  { return rounded(exact(0).Sub(exact(x), exact(y))) }
func times(x, y float64) float64 { return rounded(exact(0).Mul(exact(x), exact(y))) }
func by(x, y float64) float64    { return rounded(exact(0).Quo(exact(x), exact(y))) }

// rootOf works the square root out to far more digits than are kept.
func rootOf(x float64) float64 {
	return rounded(new(big.Float).SetPrec(53).Set(new(big.Float).SetPrec(400).Sqrt(exact(x))))
}

// told works roots out as the chapter's rules stand, one by one, with steps that were met before kept.
type told map[int]complex128

func (t told) step(n int) complex128 {
	if step, ok := t[n]; ok {
		return step
	}
	if n == 8 {
		t[n] = complex(rootOf(0.5), rootOf(0.5))
		return t[n]
	}
	half := t.step(n / 2)
	c := rootOf(times(0.5, plus(1, real(half))))
	t[n] = complex(c, by(imag(half), times(2, c)))
	return t[n]
}

func (t told) root(n, k int) complex128 {
	switch {
	case n >= 4 && k >= n/4:
		a := t.root(n, k-n/4)
		return cx.Plain(complex(-imag(a), real(a)))
	case n == 2 && k == 1:
		return -1
	case k == 0:
		return 1
	case k > n/8:
		a := t.root(n, n/4-k)
		return complex(imag(a), real(a))
	case k%2 == 0:
		return t.root(n/2, k/2)
	}
	a, b := t.root(n, k-1), t.step(n)
	p, q, u, v := real(a), imag(a), real(b), imag(b)
	return cx.Plain(complex(less(times(p, u), times(q, v)), plus(times(p, v), times(q, u))))
}

// orders: every one there is.
func orders() []int {
	var out []int
	for n := 1; n <= api.MaxLen; n *= 2 {
		out = append(out, n)
	}
	return out
}

// wrong: what is no order, powers of two among them, and the least int, which has one bit as they have.
func wrong() []int {
	out := []int{math.MinInt, math.MinInt + 1, -1 << 62, -1 << 32, -8192, -4096, -8, -4, -3, -2, -1, 0, 8192, 1 << 16, 1 << 31, 1 << 32, 1<<32 + 4, 1 << 62, math.MaxInt - 1, math.MaxInt}
	for n := 3; n <= 2*api.MaxLen; n++ {
		if n&(n-1) != 0 {
			out = append(out, n)
		}
	}
	return out
}

func same(a, b complex128) bool {
	return math.Float64bits(real(a)) == math.Float64bits(real(b)) && math.Float64bits(imag(a)) == math.Float64bits(imag(b))
}
