package root_test

import (
	"math"
	"math/big"
	"testing"

	"penumbra/api"
	"penumbra/cx"
	"penumbra/root"
)

// places: once round and farther, either way, with the ends of int where k + n/4 is still one.
func places(n int) []int {
	out := []int{math.MinInt + 1, math.MinInt + n, -1 << 40, 1 << 40, math.MaxInt - n, math.MaxInt - n/4}
	for k := -n - 2; k <= 2*n+2; k++ {
		out = append(out, k)
	}
	return out
}

// P2.2: no part is a nought with a sign.
func TestNoSignedNought(t *testing.T) {
	for _, n := range orders() {
		table, _ := root.Table(n)
		for _, k := range places(n) {
			for _, a := range []complex128{at(t, n, k), table[k&(n-1)]} {
				for _, x := range []float64{real(a), imag(a)} {
					if x == 0 && math.Signbit(x) {
						t.Errorf("Root(%d, %d): %s", n, k, cx.Text(a))
					}
				}
			}
		}
	}
}

// P2.2: a quarter further is the turned root.
func TestQuarterFurther(t *testing.T) {
	for _, n := range orders()[2:] {
		for _, k := range places(n) {
			if got, want := at(t, n, k+n/4), cx.Plain(cx.Turn(at(t, n, k), 1)); !same(got, want) {
				t.Errorf("Root(%d, %d): %v, not %v", n, k+n/4, got, want)
			}
		}
	}
}

// P2.2: backwards is the conjugate.
func TestBackwards(t *testing.T) {
	for _, n := range orders() {
		for _, k := range places(n) {
			if got, want := at(t, n, -k), cx.Plain(cx.Conj(at(t, n, k))); !same(got, want) {
				t.Errorf("Root(%d, %d): %v, not %v", n, -k, got, want)
			}
		}
	}
}

// P2.2: every second root of twice the order is one of this order.
func TestTwiceTheOrder(t *testing.T) {
	for _, n := range orders() {
		if 2*n > api.MaxLen {
			continue
		}
		for k := -n - 2; k <= 2*n+2; k++ {
			if got, want := at(t, 2*n, 2*k), at(t, n, k); !same(got, want) {
				t.Errorf("Root(%d, %d): %v, not %v", 2*n, 2*k, got, want)
			}
		}
	}
}

// P2.3: the product of two roots is near to the root at the sum of their places; all pairs of all orders.
func TestProductsNear(t *testing.T) {
	for _, n := range orders() {
		table, _ := root.Table(n)
		if len(table) != n {
			t.Fatalf("Table(%d): %d of them", n, len(table))
		}
		for j, a := range table {
			for k, b := range table {
				if far := cx.Far(cx.Mul(a, b), table[(j+k)%n]); !(far <= 0x1p-44) {
					t.Fatalf("order %d, %d and %d: %v far", n, j, k, far)
				}
			}
		}
	}
}

// P2.3: the sum of the squares is near to 1, worked out without loss.
func TestSquaresNear(t *testing.T) {
	wide := func(x float64) *big.Float { return new(big.Float).SetPrec(2400).SetFloat64(x) }
	for _, n := range orders() {
		for k := range n {
			a := at(t, n, k)
			p, q := wide(real(a)), wide(imag(a))
			sum := wide(-1)
			sum.Add(sum, p.Mul(p, p)).Add(sum, q.Mul(q, q))
			if sum.Abs(sum).Cmp(wide(0x1p-46)) > 0 {
				t.Errorf("Root(%d, %d): the squares are %v off", n, k, sum)
			}
		}
	}
}

// P2.3: what a root stands for is the number at the angle k/n of a turn, not only one of n that multiply alike.
func TestAnglesNear(t *testing.T) {
	for _, n := range orders() {
		for k := range n {
			s, c := math.Sincos(2 * math.Pi * float64(k) / float64(n))
			if far := cx.Far(at(t, n, k), complex(c, s)); !(far <= 0x1p-44) {
				t.Errorf("Root(%d, %d): %v far from the angle", n, k, far)
			}
		}
	}
}
