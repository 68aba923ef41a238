package wave_test

import (
	"math"
	"testing"

	"penumbra/api"
	"penumbra/cx"
	"penumbra/sample"
	"penumbra/wave"
)

type call func(x []complex128) ([]complex128, api.Errno)

// check: does the call answer that list?
func check(t *testing.T, name string, got []complex128, e api.Errno, want []complex128) {
	t.Helper()
	if e != api.OK || len(got) != len(want) {
		t.Fatalf("%s of %d numbers: %d of them, error %d", name, len(want), len(got), e)
	}
	for k := range want {
		if !sample.Agree(got[k], want[k]) {
			t.Fatalf("%s of %d numbers, at %d: %s, not %s", name, len(want), k, cx.Text(got[k]), cx.Text(want[k]))
		}
	}
}

// P3.1: the transform and the way back by the rule of halves, at every length, at all kinds of numbers.
func TestByTheirRules(t *testing.T) {
	for _, n := range lengths() {
		for _, x := range append(sample.Lists(n), sample.Wholes(n)...) {
			y, e := wave.Forward(x)
			check(t, "Forward", y, e, forward(x))
			z, e := wave.Back(x)
			check(t, "Back", z, e, back(x))
		}
	}
}

// P3.1: the transform by its definition, at every length that it takes.
func TestDirect(t *testing.T) {
	for _, n := range lengths() {
		if n > api.MaxDirect {
			continue
		}
		for _, x := range append(sample.Lists(n), sample.Wholes(n)[:5]...) {
			y, e := wave.Direct(x)
			check(t, "Direct", y, e, direct(x))
		}
	}
}

// P3.1: bits that were worked out by another program in another language.
func TestBits(t *testing.T) {
	calls := map[string]call{"Forward": wave.Forward, "Back": wave.Back, "Direct": wave.Direct}
	for _, c := range []struct {
		name string
		n, k int
		want string
	}{
		{"Forward", 2, 0, "c057492492492492c053c00000000000"},
		{"Forward", 2, 1, "c01b6db6db6db6d8bfb745d1745d1800"},
		{"Forward", 8, 0, "4057edb6db6db6dcc06ea2e8ba2e8ba2"},
		{"Forward", 8, 1, "c06685904faf3a564066ff5299d49507"},
		{"Forward", 8, 3, "c04d0df2783d8f2240582e44ce90702f"},
		{"Forward", 8, 4, "c063492492492492c032e8ba2e8ba2ec"},
		{"Forward", 8, 7, "c055726088091dd7c0655dc8a32052b0"},
		{"Forward", 64, 0, "408c8edb6db6db6ec0604ba2e8ba2e8a"},
		{"Forward", 64, 1, "4072326d5b7054f8c0703367cb1aeb5b"},
		{"Forward", 64, 17, "c02feebe2efa8a80c051826d28ac5621"},
		{"Forward", 64, 32, "405a1b6db6db6db4c041745d1745d176"},
		{"Forward", 64, 63, "405ec1a96b27bca3c0664e77b914d4d0"},
		{"Forward", 256, 0, "40b2c54924924925407a3ba2e8ba2e8c"},
		{"Forward", 256, 1, "c07499f66a8891fec073c7d0e00d5b80"},
		{"Forward", 256, 65, "c06b5a7922861deec05d2dcd3ab310f4"},
		{"Forward", 256, 128, "4093964924924925c0741ba2e8ba2e8c"},
		{"Forward", 256, 255, "4070742ba5353efdc072b1973d066823"},
		{"Forward", 4096, 0, "40f50c149249249240d0df45d1745d18"},
		{"Forward", 4096, 1, "c07ac95eccaa1a80c0832a9b003ac465"},
		{"Forward", 4096, 1025, "c04116c3bbdb1180c00e2aa97e970400"},
		{"Forward", 4096, 2048, "c040c92492492400c070dd1745d17460"},
		{"Forward", 4096, 4095, "c076f1338b4395c4c082c68c4d84325b"},
		{"Back", 2, 0, "c047492492492492c043c00000000000"},
		{"Back", 2, 1, "c00b6db6db6db6d8bfa745d1745d1800"},
		{"Back", 8, 0, "4027edb6db6db6dcc03ea2e8ba2e8ba2"},
		{"Back", 8, 1, "c025726088091dd7c0355dc8a32052b0"},
		{"Back", 8, 3, "c013ade6a6aa2748c030a1668c881d57"},
		{"Back", 8, 4, "c033492492492492c002e8ba2e8ba2ec"},
		{"Back", 8, 7, "c03685904faf3a564036ff5299d49507"},
		{"Back", 64, 0, "402c8edb6db6db6ec0004ba2e8ba2e8a"},
		{"Back", 64, 1, "3ffec1a96b27bca3c0064e77b914d4d0"},
		{"Back", 64, 17, "bfedcfc4186e2c45c0003b9572aa509a"},
		{"Back", 64, 32, "3ffa1b6db6db6db4bfe1745d1745d176"},
		{"Back", 64, 63, "4012326d5b7054f8c0103367cb1aeb5b"},
		{"Back", 256, 0, "4032c549249249253ffa3ba2e8ba2e8c"},
		{"Back", 256, 1, "3ff0742ba5353efdbff2b1973d066823"},
		{"Back", 256, 65, "c0006df4787a70273febe4e0b058b3d6"},
		{"Back", 256, 128, "4013964924924925bff41ba2e8ba2e8c"},
		{"Back", 256, 255, "bff499f66a8891febff3c7d0e00d5b80"},
		{"Back", 4096, 0, "40350c14924924924010df45d1745d18"},
		{"Back", 4096, 1, "bfb6f1338b4395c4bfc2c68c4d84325b"},
		{"Back", 4096, 1025, "3fa6d27a892f5bb8bf82c049594dd800"},
		{"Back", 4096, 2048, "bf80c92492492400bfb0dd1745d17460"},
		{"Back", 4096, 4095, "bfbac95eccaa1a80bfc32a9b003ac465"},
		{"Direct", 2, 0, "c057492492492492c053c00000000000"},
		{"Direct", 2, 1, "c01b6db6db6db6d8bfb745d1745d1800"},
		{"Direct", 8, 0, "4057edb6db6db6dbc06ea2e8ba2e8ba3"},
		{"Direct", 8, 1, "c06685904faf3a564066ff5299d49506"},
		{"Direct", 8, 3, "c04d0df2783d8f2040582e44ce907030"},
		{"Direct", 8, 4, "c063492492492492c032e8ba2e8ba2ea"},
		{"Direct", 8, 7, "c055726088091dd8c0655dc8a32052b0"},
		{"Direct", 64, 0, "408c8edb6db6db6cc0604ba2e8ba2e8d"},
		{"Direct", 64, 1, "4072326d5b7054f9c0703367cb1aeb58"},
		{"Direct", 64, 17, "c02feebe2efa8a70c051826d28ac561d"},
		{"Direct", 64, 32, "405a1b6db6db6db0c041745d1745d172"},
		{"Direct", 64, 63, "405ec1a96b27bc9ac0664e77b914d4d2"},
		{"Direct", 256, 0, "40b2c54924924925407a3ba2e8ba2e8b"},
		{"Direct", 256, 1, "c07499f66a8891f8c073c7d0e00d5ba2"},
		{"Direct", 256, 65, "c06b5a7922861defc05d2dcd3ab310e9"},
		{"Direct", 256, 128, "4093964924924929c0741ba2e8ba2e89"},
		{"Direct", 256, 255, "4070742ba5353efac072b1973d066816"},
	} {
		x := make([]complex128, c.n)
		for j := range x {
			x[j] = complex(float64((j*j*37+11*j)%1009)/7-50, float64((j*j*j+5)%997)/11-40)
		}
		y, e := calls[c.name](x)
		if e != api.OK || len(y) != c.n {
			t.Fatalf("%s of %d numbers: %d of them, error %d", c.name, c.n, len(y), e)
		}
		if got := cx.Text(y[c.k]); got != c.want {
			t.Errorf("%s of %d numbers, at %d: %s, not %s", c.name, c.n, c.k, got, c.want)
		}
	}
}

// P3.1: the chapter's examples, bit by bit.
func TestExamples(t *testing.T) {
	y, e := wave.Forward([]complex128{1, 2, 3, 4})
	check(t, "Forward", y, e, []complex128{10, -2 + 2i, -2, -2 - 2i})
	x, e := wave.Back(y)
	check(t, "Back", x, e, []complex128{1, 2, 3, 4})
	five, e := wave.Forward([]complex128{5})
	check(t, "Forward", five, e, []complex128{5})
	whole := wave.Whole([]complex128{0.5, 1.5, complex(-0.5, -2.6)})
	check(t, "Whole", whole, api.OK, []complex128{0, 2, complex(0, -3)})
}

// P3.1: of one number there is no butterfly, so that a nought keeps its sign and an infinity its other part; the definition adds to +0 and multiplies.
func TestOneNumber(t *testing.T) {
	inf := math.Inf(1)
	for _, c := range []struct{ x, direct complex128 }{
		{complex(minus, minus), 0},
		{complex(minus, 0), 0},
		{complex(3, minus), 3},
		{complex(inf, 5), complex(inf, math.NaN())},
		{complex(5, -inf), complex(math.NaN(), -inf)},
	} {
		x := []complex128{c.x}
		y, e := wave.Forward(x)
		check(t, "Forward", y, e, x)
		y, e = wave.Back(x)
		check(t, "Back", y, e, x)
		y, e = wave.Direct(x)
		check(t, "Direct", y, e, []complex128{c.direct})
	}
}

// P3.1: Whole's edges: halves go to the even neighbour, noughts lose their sign, great numbers are whole, NaNs and infinities stay.
func TestWholeEdges(t *testing.T) {
	inf, nan := math.Inf(1), math.NaN()
	for _, c := range []struct{ x, want float64 }{
		{0, 0}, {minus, 0}, {0.5, 0}, {-0.5, 0}, {1.5, 2}, {-1.5, -2}, {2.5, 2}, {-2.5, -2}, {3.5, 4}, {-3.5, -4},
		{0.49999999999999994, 0}, {-0.49999999999999994, 0}, {0.5000000000000001, 1}, {-0.5000000000000001, -1},
		{1.4999999999999998, 1}, {2.5000000000000004, 3}, {-2.6, -3}, {0x1p-1074, 0}, {-0x1p-1074, 0},
		{1<<20 + 0.5, 1 << 20}, {-(1 << 20) - 0.5, -(1 << 20)}, {1<<20 - 0.5, 1 << 20},
		{1<<51 + 0.5, 1 << 51}, {1<<51 + 1.5, 1<<51 + 2}, {1<<52 - 0.5, 1 << 52}, {1<<52 + 1, 1<<52 + 1}, {1<<53 + 2, 1<<53 + 2}, {-(1 << 62), -(1 << 62)},
		{1e300, 1e300}, {math.MaxFloat64, math.MaxFloat64}, {-math.MaxFloat64, -math.MaxFloat64},
		{inf, inf}, {-inf, -inf}, {nan, nan}, {math.Float64frombits(0xfff0000000000001), nan},
	} {
		got := wave.Whole([]complex128{complex(c.x, 7), complex(-7, c.x)})
		check(t, "Whole", got, api.OK, []complex128{complex(c.want, 7), complex(-7, c.want)})
	}
}

// P3.1: Whole of any list, of any length.
func TestWholeOfAny(t *testing.T) {
	d := sample.Dice(3)
	for _, n := range append(lengths(), wrong()...) {
		for _, part := range []func() float64{d.AnyBits, d.Edge, d.Between(-3, 60)} {
			y := d.List(n, part)
			want := make([]complex128, n)
			for k, a := range y {
				want[k] = complex(wholePart(real(a)), wholePart(imag(a)))
			}
			check(t, "Whole", wave.Whole(y), api.OK, want)
		}
	}
	check(t, "Whole", wave.Whole(nil), api.OK, nil)
}

// P3.1 and P1, rules 1 to 3: what is no length has ErrLen and nothing beside it, ahead of ErrLong.
func TestWrongLengths(t *testing.T) {
	d := sample.Dice(4)
	for name, f := range map[string]call{"Forward": wave.Forward, "Back": wave.Back, "Direct": wave.Direct} {
		for _, n := range wrong() {
			if y, e := f(d.List(n, d.AnyBits)); e != api.ErrLen || len(y) != 0 {
				t.Errorf("%s of %d numbers: %d of them, error %d", name, n, len(y), e)
			}
		}
		if y, e := f(nil); e != api.ErrLen || len(y) != 0 {
			t.Errorf("%s of nil: %d of them, error %d", name, len(y), e)
		}
		// The length counts, not the room behind it.
		if y, e := f(make([]complex128, 3, 4)); e != api.ErrLen || len(y) != 0 {
			t.Errorf("%s of three numbers with room for four: %d of them, error %d", name, len(y), e)
		}
	}
}

// P3.1: the definition is for 256 numbers and no more.
func TestDirectTooLong(t *testing.T) {
	for _, n := range lengths() {
		y, e := wave.Direct(make([]complex128, n))
		if n <= 256 && (e != api.OK || len(y) != n) || n > 256 && (e != api.ErrLong || len(y) != 0) {
			t.Errorf("Direct of %d numbers: %d of them, error %d", n, len(y), e)
		}
	}
}
