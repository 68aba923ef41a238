package cx_test

import (
	"math"
	"testing"

	"penumbra/cx"
	"penumbra/sample"
)

// P1.1: the chapter's examples.
func TestExamples(t *testing.T) {
	if !cx.Same(complex(math.NaN(), 0), complex(nans()[4], 0)) {
		t.Error("Same: two NaNs")
	}
	if cx.Same(0, complex(minus, 0)) || complex(minus, 0) != 0 {
		t.Error("Same: two noughts")
	}
	if bits(cx.Plain(complex(minus, minus))) != bits(0) {
		t.Error("Plain")
	}
	if cx.Mul(1+2i, 3+4i) != -5+10i || cx.Turn(1+2i, 1) != -2+1i || cx.Turn(1+2i, -1) != 2-1i {
		t.Error("Mul, Turn")
	}
	if bits(cx.Conj(1)) != bits(complex(1, minus)) {
		t.Error("Conj")
	}
	if cx.Scale(3, -1) != 1.5 || cx.Size(-3+2i) != 3 || !math.IsNaN(cx.Size(complex(math.Inf(1), math.NaN()))) {
		t.Error("Scale, Size")
	}
	if !cx.Whole(3-4i, 4) || cx.Whole(0.5, 9) || cx.Whole(complex(minus, 0), 9) || cx.Whole(5, 4) {
		t.Error("Whole")
	}
}

func TestSame(t *testing.T) {
	all := numbers()
	for i, a := range all {
		if !cx.Same(a, a) {
			t.Errorf("Same(%v, itself)", a)
		}
		b := all[(i*31+7)%len(all)]
		if cx.Same(a, b) != sample.Agree(a, b) || cx.Same(b, a) != sample.Agree(a, b) {
			t.Errorf("Same(%v, %v)", a, b)
		}
	}
	for _, x := range nans() {
		for _, y := range nans() {
			if !cx.Same(complex(x, 2), complex(y, 2)) || !cx.Same(complex(2, x), complex(2, y)) || !cx.Same(complex(x, y), complex(y, x)) {
				t.Errorf("Same: NaNs %x, %x", math.Float64bits(x), math.Float64bits(y))
			}
			if cx.Same(complex(x, 1), complex(y, 2)) || cx.Same(complex(x, 1), complex(1, y)) {
				t.Errorf("Same: NaNs %x, %x beside other parts", math.Float64bits(x), math.Float64bits(y))
			}
		}
		if cx.Same(complex(x, 0), complex(math.Inf(1), 0)) || cx.Same(complex(0, x), complex(0, minus)) {
			t.Error("Same: a NaN and a number")
		}
	}
	if cx.Same(complex(1, 0), complex(1, minus)) || cx.Same(1+2i, 2+1i) || cx.Same(1, complex(1+0x1p-52, 0)) {
		t.Error("Same: parts that differ in one bit, or are swapped")
	}
}

func TestPlain(t *testing.T) {
	for _, a := range numbers() {
		want := bits(a)
		if want.p == 1<<63 {
			want.p = 0
		}
		if want.q == 1<<63 {
			want.q = 0
		}
		if got := bits(cx.Plain(a)); got != want {
			t.Errorf("Plain(%v): %x", a, got)
		}
	}
}

func TestAddSub(t *testing.T) {
	for _, a := range numbers() {
		for _, b := range some() {
			if want := complex(plus(real(a), real(b)), plus(imag(a), imag(b))); !sample.Agree(cx.Add(a, b), want) {
				t.Errorf("Add(%v, %v): %v, not %v", a, b, cx.Add(a, b), want)
			}
			if want := complex(less(real(a), real(b)), less(imag(a), imag(b))); !sample.Agree(cx.Sub(a, b), want) {
				t.Errorf("Sub(%v, %v): %v, not %v", a, b, cx.Sub(a, b), want)
			}
		}
	}
}

// stepwise: the product as the chapter tells it, each step worked out without loss and then rounded.
func stepwise(a, b complex128) complex128 {
	p, q, u, v := real(a), imag(a), real(b), imag(b)
	return complex(less(times(p, u), times(q, v)), plus(times(p, v), times(q, u)))
}

func TestMul(t *testing.T) {
	check := func(a, b complex128) {
		if want := stepwise(a, b); !sample.Agree(cx.Mul(a, b), want) {
			t.Errorf("Mul(%v, %v): %v, not %v", a, b, cx.Mul(a, b), want)
		}
	}
	for _, a := range numbers() {
		for _, b := range some() {
			check(a, b)
		}
	}
	d := dice{1}
	for range 2000 {
		check(d.near(), d.near())
		check(d.number(), d.number())
	}
}

// Each of the four products is rounded: 1 - 2^-60 is 1 as a product, and is not where it is made in one step with the sum.
func TestMulNotInOneStep(t *testing.T) {
	up, down := 1+0x1p-30, 1-0x1p-30
	for _, c := range []struct{ a, b, want complex128 }{
		{complex(up, 1), complex(down, 1), complex(0, 2)},
		{complex(1, up), complex(1, down), complex(0, 2)},
		{complex(up, -1), complex(1, down), complex(2, 0)},
		{complex(-1, up), complex(down, 1), complex(-2, 0)},
	} {
		if got := cx.Mul(c.a, c.b); got != c.want {
			t.Errorf("Mul(%v, %v): %v, not %v", c.a, c.b, got, c.want)
		}
	}
	// A sum that takes a product or a scaled number in doesn't see what was rounded away either.
	if got := cx.Add(cx.Mul(complex(up, 0), complex(down, 0)), -1); got != 0 {
		t.Errorf("Add of Mul: %v", got)
	}
	if got := cx.Add(cx.Scale(0x1.8p0, -1074), complex(-0x1p-1073, 0)); got != 0 {
		t.Errorf("Add of Scale: %v", got)
	}
}

func TestConj(t *testing.T) {
	for _, a := range numbers() {
		want := pair{bits(a).p, bits(a).q ^ 1<<63}
		if got := bits(cx.Conj(a)); got != want {
			t.Errorf("Conj(%v): %x, not %x", a, got, want)
		}
	}
}

func TestTurn(t *testing.T) {
	const sign = 1 << 63
	for _, a := range numbers() {
		b := bits(a)
		want := [4]pair{b, {b.q ^ sign, b.p}, {b.p ^ sign, b.q ^ sign}, {b.q, b.p ^ sign}}
		for _, k := range powers() {
			r := ((k % 4) + 4) % 4
			if got := bits(cx.Turn(a, k)); got != want[r] {
				t.Errorf("Turn(%v, %d): %x, not %x", a, k, got, want[r])
			}
		}
	}
}

func TestScale(t *testing.T) {
	for _, a := range numbers() {
		for _, k := range powers() {
			near := max(-2200, min(2200, k))
			if want := complex(lifted(real(a), near), lifted(imag(a), near)); !sample.Agree(cx.Scale(a, k), want) {
				t.Errorf("Scale(%v, %d): %v, not %v", a, k, cx.Scale(a, k), want)
			}
		}
	}
}

// Less than the least normal number: ties go to even, and what lies just beside a tie is rounded once, not twice.
func TestScaleBelowNormal(t *testing.T) {
	for _, x := range []float64{1, 0x1.8p0, 0x1.4p0, 0x1.cp0, 0x1.0000000000001p0, 0x1.8000000000001p0, 0x1.7ffffffffffffp0, 0x1.fffffffffffffp0, 0x1.0000080000001p0, 0x1.0000180000000p0, 0x1.555555555555p0} {
		for _, from := range []int{0, 900, -500, -980, -1000, -1010, -1022} { // a way in two steps may be rounded at either
			y := math.Ldexp(x, from)
			for k := -1080 - from; k <= -1015-from; k++ {
				a := complex(y, -y)
				if want := complex(lifted(y, k), lifted(-y, k)); bits(cx.Scale(a, k)) != bits(want) {
					t.Errorf("Scale(%v, %d): %v, not %v", a, k, cx.Scale(a, k), want)
				}
			}
		}
	}
	if cx.Scale(1, -1075) != 0 || cx.Scale(1+0x1p-52, -1075) != 0x1p-1074 || cx.Scale(3, -1075) != 0x1p-1073 {
		t.Error("Scale: the least number of all")
	}
	if bits(cx.Scale(-1, -1076)) != bits(complex(minus, 0)) {
		t.Error("Scale: a nought keeps the sign")
	}
	if cx.Scale(0x1p-1074, 2097) != 0x1p1023 || !math.IsInf(real(cx.Scale(0x1p-1074, 2098)), 1) {
		t.Error("Scale: from the least number to the greatest")
	}
}

func TestSizeFar(t *testing.T) {
	for _, a := range numbers() {
		p, q := real(a), imag(a)
		want := math.NaN()
		if p == p && q == q {
			b := bits(a)
			want = math.Float64frombits(max(b.p<<1, b.q<<1) >> 1)
		}
		if !sample.AgreePart(cx.Size(a), want) {
			t.Errorf("Size(%v): %v, not %v", a, cx.Size(a), want)
		}
		for _, b := range some() {
			if want := cx.Size(complex(less(p, real(b)), less(q, imag(b)))); !sample.AgreePart(cx.Far(a, b), want) {
				t.Errorf("Far(%v, %v): %v, not %v", a, b, cx.Far(a, b), want)
			}
		}
	}
	inf := math.Inf(1)
	if cx.Far(5+1i, 2+9i) != 8 || cx.Far(1, 1) != 0 || !math.IsNaN(cx.Far(complex(inf, 0), complex(inf, 0))) || cx.Far(complex(inf, 0), complex(-inf, 0)) != inf {
		t.Error("Far")
	}
}

func TestWhole(t *testing.T) {
	inf := math.Inf(1)
	for _, c := range []struct {
		part float64
		most int
		want bool
	}{
		{0, 0, true}, {1, 0, false}, {0, -1, false}, {0, math.MinInt, false}, {-3, 3, true}, {-4, 3, false}, {1, 1, true},
		{minus, 9, false}, {0.5, 9, false}, {-1.5, 9, false}, {0x1p-1074, 9, false}, {1 + 0x1p-52, 9, false}, {1 << 52, math.MaxInt, true}, {1<<51 + 0.5, math.MaxInt, false},
		{inf, math.MaxInt, false}, {-inf, math.MaxInt, false}, {1e300, math.MaxInt, false},
		{1 << 63, math.MaxInt, false}, {-1 << 63, math.MaxInt, false}, {1<<63 - 1024, math.MaxInt, true}, {1<<63 - 1024, 1<<63 - 1025, false}, {-1 << 63, math.MinInt, false},
		{1 << 53, 1 << 53, true}, {1<<53 + 2, 1<<53 + 1, false}, {1<<53 + 4, 1<<53 + 3, false}, {1<<53 + 4, 1<<53 + 4, true}, {1<<53 + 4, 1<<53 + 5, true},
	} {
		if cx.Whole(complex(c.part, c.part), c.most) != c.want {
			t.Errorf("Whole of %v twice, %d: not %v", c.part, c.most, c.want)
		}
		if c.most >= 0 && (cx.Whole(complex(c.part, 0), c.most) != c.want || cx.Whole(complex(0, c.part), c.most) != c.want) {
			t.Errorf("Whole of %v beside 0, %d: not %v", c.part, c.most, c.want)
		}
	}
	for _, x := range nans() {
		if cx.Whole(complex(x, 1), math.MaxInt) || cx.Whole(complex(1, x), math.MaxInt) {
			t.Error("Whole of a NaN")
		}
	}
}

func TestNarrow(t *testing.T) {
	for _, a := range numbers() {
		n, ok := cx.Narrow(a)
		p, q := float64(float32(real(a))), float64(float32(imag(a)))
		if !sample.Agree(complex(float64(real(n)), float64(imag(n))), complex(p, q)) {
			t.Errorf("Narrow(%v): %v", a, n)
		}
		if want := a == a && bits(complex(p, q)) == bits(a); ok != want {
			t.Errorf("Narrow(%v): %v", a, ok)
		}
	}
	inf := math.Inf(1)
	for _, a := range []complex128{0, complex(minus, minus), 0.5 + 1i, complex(inf, -inf), 0x1p-149, complex(0, math.MaxFloat32), 1<<24 - 1} {
		if n, ok := cx.Narrow(a); !ok || bits(complex128(n)) != bits(a) {
			t.Errorf("Narrow(%v): %v, %v", a, n, ok)
		}
	}
	for _, a := range []complex128{0.1, 0.1i, 0x1p-150, 0x1p128, complex(0, 1<<24+1), complex(1, math.NaN()), complex(math.NaN(), 1), complex(1+0x1p-24, 0)} {
		if n, ok := cx.Narrow(a); ok || !sample.Agree(complex128(n), complex128(complex64(a))) {
			t.Errorf("Narrow(%v): %v, %v", a, n, ok)
		}
	}
}
