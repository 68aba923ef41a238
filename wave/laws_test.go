package wave_test

import (
	"testing"

	"penumbra/api"
	"penumbra/cx"
	"penumbra/sample"
	"penumbra/wave"
)

// each: the list with every number changed by do.
func each(x []complex128, do func(a complex128) complex128) []complex128 {
	out := make([]complex128, len(x))
	for j, a := range x {
		out[j] = do(a)
	}
	return out
}

// backwards: at place k what stands at n - k, at 0 what stands there.
func backwards(x []complex128) []complex128 {
	out := make([]complex128, len(x))
	for k := range x {
		out[k] = x[(len(x)-k)%len(x)]
	}
	return out
}

// of: what a call answers to a list of a length that there is.
func of(t *testing.T, f call, x []complex128) []complex128 {
	t.Helper()
	y, e := f(x)
	if e != api.OK || len(y) != len(x) {
		t.Fatalf("%d numbers: %d of them, error %d", len(x), len(y), e)
	}
	return y
}

// numbers: are both lists the same as numbers, noughts whatever their signs? A NaN is not the same as itself.
func numbers(t *testing.T, what string, got, want []complex128) {
	t.Helper()
	for k := range want {
		if got[k] != want[k] {
			t.Fatalf("%s: %d numbers, at %d: %s, not %s", what, len(want), k, cx.Text(got[k]), cx.Text(want[k]))
		}
	}
}

var both = []struct {
	name string
	f    call
}{{"forward", wave.Forward}, {"back", wave.Back}}

// P3.2: a turned list has its transform turned, whatever the power of i.
func TestTurned(t *testing.T) {
	for _, n := range lengths() {
		for _, x := range sample.Finite(n) {
			for _, way := range both {
				y := of(t, way.f, x)
				for k := 1; k <= 3; k++ {
					turn := func(a complex128) complex128 { return cx.Turn(a, k) }
					numbers(t, way.name+" of the turned", of(t, way.f, each(x, turn)), each(y, turn))
				}
			}
		}
	}
}

// P3.2: the conjugates have the conjugates of the transform, read backwards.
func TestConjugates(t *testing.T) {
	for _, n := range lengths() {
		for _, x := range sample.Finite(n) {
			for _, way := range both {
				want := each(backwards(of(t, way.f, x)), cx.Conj)
				numbers(t, way.name+" of the conjugates", of(t, way.f, each(x, cx.Conj)), want)
			}
		}
	}
}

// P3.2: at most 64 numbers doubled have their transform doubled.
func TestDoubled(t *testing.T) {
	double := func(a complex128) complex128 { return complex(2*real(a), 2*imag(a)) }
	for n := 1; n <= 64; n *= 2 {
		d := sample.Dice(n + 3)
		var all [][]complex128
		for range 40 {
			all = append(all, d.List(n, d.Between(-200, 400)), d.List(n, d.Between(-200, -190)), d.List(n, d.Between(-200, -100)))
		}
		most := make([]complex128, n)
		least := make([]complex128, n)
		for j := range most {
			most[j], least[j] = complex(0x1p400, -0x1p400), complex(-0x1p-200, 0x1p-200)
		}
		for _, x := range append(append(all, sample.Wholes(n)...), most, least) {
			for _, way := range both {
				numbers(t, way.name+" of the doubled", of(t, way.f, each(x, double)), each(of(t, way.f, x), double))
			}
		}
	}
}

// P3.3: whole numbers come back, and nearly by themselves.
func TestThereAndBack(t *testing.T) {
	for _, n := range lengths() {
		for _, x := range sample.Wholes(n) {
			z := of(t, wave.Back, of(t, wave.Forward, x))
			for j := range x {
				if far := cx.Far(z[j], x[j]); !(far < 0x1p-8) {
					t.Fatalf("%d numbers, at %d: %v far", n, j, far)
				}
			}
			check(t, "Whole", wave.Whole(z), api.OK, x)
		}
	}
}

// P3.3: the butterflies and the definition agree.
func TestForwardAndDirect(t *testing.T) {
	for n := 1; n <= api.MaxDirect; n *= 2 {
		for _, x := range sample.Wholes(n) {
			y, z := of(t, wave.Forward, x), of(t, wave.Direct, x)
			for k := range y {
				if far := cx.Far(y[k], z[k]); !(far <= 0x1p-8) {
					t.Fatalf("%d numbers, at %d: %v far", n, k, far)
				}
			}
		}
	}
}

// P3.4: at place 0 stands the very sum, worked out in whole numbers.
func TestFirstIsTheSum(t *testing.T) {
	for _, n := range lengths() {
		for _, x := range sample.Wholes(n) {
			var p, q int64
			for _, a := range x {
				p += int64(real(a))
				q += int64(imag(a))
			}
			if got := of(t, wave.Forward, x)[0]; got != complex(float64(p), float64(q)) {
				t.Fatalf("%d numbers: %v, not %d and %d", n, got, p, q)
			}
		}
	}
}

// P3.4: what is 0 but at place 0 has that number at all places.
func TestOneAtTheFirst(t *testing.T) {
	d := sample.Dice(5)
	for _, n := range lengths() {
		firsts := []complex128{0, 1, 1i, complex(-api.MaxPart, api.MaxPart), complex(api.MaxPart, 0), 0.1 + 0.7i, complex(minus, 0x1p400)}
		for _, first := range append(firsts, d.List(5, d.Whole)...) {
			x, want := make([]complex128, n), make([]complex128, n)
			x[0] = first
			for k := range want {
				want[k] = first
			}
			numbers(t, "forward of one number", of(t, wave.Forward, x), want)
		}
	}
}

// P3.1: the transform goes round the way that the conjugates of the roots tell, and the way back against it.
func TestOneAtAnother(t *testing.T) {
	for _, n := range []int{2, 4, 8, 64, 256} {
		for _, j := range []int{1, n / 2, n - 1} {
			x := make([]complex128, n)
			x[j] = 1
			y, z := of(t, wave.Forward, x), of(t, wave.Back, x)
			for k := range n {
				if cx.Far(y[k], weight(n, j*k)) > 0x1p-40 || cx.Far(cx.Mul(z[k], complex(float64(n), 0)), rootAt(n, j*k)) > 0x1p-40 {
					t.Errorf("1 at place %d of %d, at %d: %v and %v", j, n, k, y[k], z[k])
				}
			}
		}
	}
}
