package ray_test

import (
	"math"
	"testing"

	"penumbra/api"
	"penumbra/ray"
	"penumbra/sample"
)

// P9.1: lists of every kind, against each other.
func TestDot(t *testing.T) {
	for _, n := range []int{1, 2, 3, 7, 64, 500} {
		all := append(sample.Lists(n), sample.Finite(n)...)
		for _, a := range all {
			for _, b := range all {
				if v, e := ray.Dot(a, b); !sample.Agree(right(t, v, e), dotted(a, b)) {
					t.Fatalf("%d numbers: %v, not %v", n, v, dotted(a, b))
				}
			}
		}
	}
}

// P9.1: sums that are written out; each would be another one if another step came first, or two were made in one.
func TestDotWrittenOut(t *testing.T) {
	const great = 1 << 53
	minus := sample.MinusNought()
	third, tenth := 1.0/3, 0.1
	for name, c := range map[string]struct {
		a, b []complex128
		want complex128
	}{
		"the second one's conjugate":     {[]complex128{1}, []complex128{1i}, complex(0, -1)},
		"not the first one's":            {[]complex128{1i}, []complex128{1}, 1i},
		"both parts":                     {[]complex128{1 + 2i}, []complex128{3 + 4i}, 11 + 2i},
		"rising: each 1 is lost":         {[]complex128{great, 1, 1}, []complex128{1, 1, 1}, great},
		"rising: they are kept":          {[]complex128{1, 1, great}, []complex128{1, 1, 1}, great + 2},
		"no pairs first":                 {[]complex128{great, 1, 1, -great}, []complex128{1, 1, 1, 1}, 0},
		"rising in the second part":      {[]complex128{great, 1, 1}, []complex128{1i, 1i, 1i}, complex(0, -great)},
		"noughts lose their sign":        {[]complex128{complex(minus, minus)}, []complex128{1}, 0},
		"a product's, too":               {[]complex128{-1}, []complex128{0}, 0},
		"the greatest, and beyond":       {[]complex128{math.MaxFloat64, math.MaxFloat64}, []complex128{1, 1}, complex(math.Inf(1), 0)},
		"a product is rounded by itself": {[]complex128{complex(third, 0), complex(-third*tenth, 0)}, []complex128{complex(tenth, 0), 1}, 0},
	} {
		if v, e := ray.Dot(c.a, c.b); !sample.Agree(right(t, v, e), c.want) {
			t.Errorf("%s: %v, not %v", name, v, c.want)
		}
	}
	// Both products of the first part are the same number, once they are rounded.
	if v, e := ray.Dot([]complex128{complex(third, third*tenth)}, []complex128{complex(tenth, -1)}); real(right(t, v, e)) != 0 {
		t.Errorf("a difference of two products: %v", v)
	}
}

// P9.1: of nothing it is 0, whichever way nothing is told; lists of unlike lengths have none.
func TestDotEdges(t *testing.T) {
	for _, a := range [][]complex128{nil, {}} {
		for _, b := range [][]complex128{nil, {}} {
			if v, e := ray.Dot(a, b); !sample.Agree(right(t, v, e), 0) {
				t.Errorf("of nothing: %v", v)
			}
		}
	}
	lengths := []int{0, 1, 2, 3, 64, 65, 4096, 5000}
	for _, n := range lengths {
		for _, m := range lengths {
			if n == m {
				continue
			}
			// Room for more numbers is no number.
			a, b := make([]complex128, n, 9000), make([]complex128, m, 9000)
			for i := range a {
				a[i] = complex(float64(i), math.NaN())
			}
			v, e := ray.Dot(a, b)
			refused(t, "Dot of unlike lengths", sample.Agree(v, 0), e, api.ErrArg)
		}
	}
	long := make([]complex128, 100000) // no length is too great
	for i := range long {
		long[i] = 2i
	}
	if v, e := ray.Dot(long, long); right(t, v, e) != 400000 {
		t.Errorf("of many: %v", v)
	}
}
