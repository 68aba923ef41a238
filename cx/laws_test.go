package cx_test

import (
	"math/big"
	"testing"

	"penumbra/cx"
	"penumbra/sample"
)

// P1.2: turns and conjugates.
func TestTurnsOfOne(t *testing.T) {
	for _, a := range numbers() {
		if bits(cx.Turn(cx.Turn(cx.Turn(cx.Turn(a, 1), 1), 1), 1)) != bits(a) || bits(cx.Turn(a, 4)) != bits(a) {
			t.Errorf("four turns of %v", a)
		}
		turned := pair{bits(a).p ^ 1<<63, bits(a).q ^ 1<<63}
		if bits(cx.Turn(cx.Turn(a, 1), 1)) != turned || bits(cx.Turn(a, 2)) != turned {
			t.Errorf("two turns of %v", a)
		}
		if bits(cx.Turn(cx.Turn(a, 2), 1)) != bits(cx.Turn(a, 3)) || bits(cx.Turn(cx.Turn(a, 3), 1)) != bits(a) {
			t.Errorf("three turns of %v", a)
		}
		if bits(cx.Conj(cx.Conj(a))) != bits(a) {
			t.Errorf("Conj twice of %v", a)
		}
	}
}

func TestTurnsThroughOthers(t *testing.T) {
	check := func(a, b complex128) {
		for k := -1; k < 4; k++ {
			want := unsigned(cx.Turn(cx.Mul(a, b), k))
			if !sample.Agree(unsigned(cx.Mul(cx.Turn(a, k), b)), want) || !sample.Agree(unsigned(cx.Mul(a, cx.Turn(b, k))), want) {
				t.Errorf("a turned factor: %v, %v, %d", a, b, k)
			}
		}
		ca, cb := cx.Conj(a), cx.Conj(b)
		if !sample.Agree(unsigned(cx.Conj(cx.Add(a, b))), unsigned(cx.Add(ca, cb))) {
			t.Errorf("Conj through Add: %v, %v", a, b)
		}
		if !sample.Agree(unsigned(cx.Conj(cx.Sub(a, b))), unsigned(cx.Sub(ca, cb))) {
			t.Errorf("Conj through Sub: %v, %v", a, b)
		}
		if !sample.Agree(unsigned(cx.Conj(cx.Mul(a, b))), unsigned(cx.Mul(ca, cb))) {
			t.Errorf("Conj through Mul: %v, %v", a, b)
		}
	}
	for _, a := range numbers() {
		for _, b := range some() {
			check(a, b)
		}
	}
	d := dice{2}
	for range 2000 {
		check(d.near(), d.near())
		check(d.number(), d.number())
	}
}

const ringMost = 1 << 25

// wholes: the corners of the promise, and others between.
func wholes() []complex128 {
	edge := []float64{-ringMost, -ringMost + 1, -3, -1, 0, 1, 2, ringMost - 1, ringMost}
	var out []complex128
	for _, p := range edge {
		for _, q := range edge {
			out = append(out, complex(p, q))
		}
	}
	d := dice{3}
	for range 40 {
		out = append(out, d.whole(ringMost))
	}
	return out
}

func whole(x float64) *big.Int {
	out, _ := exact(x).Int(nil)
	return out
}

// is: has x the value of the whole number n?
func is(x float64, n *big.Int) bool { return finite(x) && exact(x).IsInt() && whole(x).Cmp(n) == 0 }

// P1.3: exact and whole.
func TestWholeExact(t *testing.T) {
	var r, s big.Int
	for _, a := range wholes() {
		for _, b := range wholes() {
			p, q, u, v := whole(real(a)), whole(imag(a)), whole(real(b)), whole(imag(b))
			got := cx.Add(a, b)
			if !is(real(got), r.Add(p, u)) || !is(imag(got), s.Add(q, v)) || !cx.Whole(cx.Plain(got), 1<<26) {
				t.Errorf("Add(%v, %v): %v", a, b, got)
			}
			got = cx.Sub(a, b)
			if !is(real(got), r.Sub(p, u)) || !is(imag(got), s.Sub(q, v)) || !cx.Whole(cx.Plain(got), 1<<26) {
				t.Errorf("Sub(%v, %v): %v", a, b, got)
			}
			got = cx.Mul(a, b)
			r.Sub(new(big.Int).Mul(p, u), new(big.Int).Mul(q, v))
			s.Add(new(big.Int).Mul(p, v), new(big.Int).Mul(q, u))
			if !is(real(got), &r) || !is(imag(got), &s) || !cx.Whole(cx.Plain(got), 1<<51) {
				t.Errorf("Mul(%v, %v): %v", a, b, got)
			}
		}
	}
}

// same: of whole numbers, behind Plain.
func same(a, b complex128) bool { return bits(cx.Plain(a)) == bits(cx.Plain(b)) }

// P1.3: the laws of a ring.
func TestRingLaws(t *testing.T) {
	for _, a := range wholes() {
		if !same(cx.Add(a, 0), a) || !same(cx.Mul(a, 1), a) || !same(cx.Mul(1, a), a) || !same(cx.Sub(a, a), 0) || !same(cx.Mul(a, 0), 0) || !same(cx.Add(a, cx.Turn(a, 2)), 0) || !same(cx.Mul(a, 1i), cx.Turn(a, 1)) {
			t.Errorf("nought, one and the opposite: %v", a)
		}
		for _, b := range wholes() {
			if !same(cx.Add(a, b), cx.Add(b, a)) || !same(cx.Mul(a, b), cx.Mul(b, a)) || !same(cx.Sub(a, b), cx.Turn(cx.Sub(b, a), 2)) || !same(cx.Add(cx.Sub(a, b), b), a) {
				t.Errorf("two: %v, %v", a, b)
			}
		}
	}
	// Of three factors the product of two must stay within the promise's parts, so these are smaller.
	d := dice{4}
	for range 5000 {
		a, b, c := d.whole(1<<11), d.whole(1<<11), d.whole(1<<11)
		if !same(cx.Add(cx.Add(a, b), c), cx.Add(a, cx.Add(b, c))) || !same(cx.Mul(cx.Mul(a, b), c), cx.Mul(a, cx.Mul(b, c))) {
			t.Errorf("three in either order: %v, %v, %v", a, b, c)
		}
		if !same(cx.Mul(a, cx.Add(b, c)), cx.Add(cx.Mul(a, b), cx.Mul(a, c))) || !same(cx.Mul(cx.Sub(a, b), c), cx.Sub(cx.Mul(a, c), cx.Mul(b, c))) {
			t.Errorf("a factor through a sum: %v, %v, %v", a, b, c)
		}
	}
	for range 5000 { // sums and their products stay below 2^53 with parts up to the promise's own
		a, b, c := d.whole(ringMost), d.whole(ringMost/2), d.whole(ringMost/2)
		if !same(cx.Add(cx.Add(a, b), c), cx.Add(a, cx.Add(b, c))) || !same(cx.Mul(a, cx.Add(b, c)), cx.Add(cx.Mul(a, b), cx.Mul(a, c))) {
			t.Errorf("three great ones: %v, %v, %v", a, b, c)
		}
	}
}
