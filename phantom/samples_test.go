package phantom_test

import (
	"math"
	"testing"

	"penumbra/api"
	"penumbra/sample"
)

func rect(x, y, a, b int, worth complex128) api.Shape {
	return api.Shape{Kind: api.Rect, X: x, Y: y, A: a, B: b, Worth: worth}
}

func disc(x, y, a int, worth complex128) api.Shape {
	return api.Shape{Kind: api.Disc, X: x, Y: y, A: a, Worth: worth}
}

func wedge(x, y, a, b int, worth complex128) api.Shape {
	return api.Shape{Kind: api.Wedge, X: x, Y: y, A: a, B: b, Worth: worth}
}

func of(n int, shapes ...api.Shape) api.Phantom { return api.Phantom{N: n, Shapes: shapes} }

// sides: the edges, and ordinary ones, odd and even.
func sides() []int { return []int{1, 2, 3, 8, 13, 63, 64} }

// parts: what a worth's part may be, with the edges.
func parts() []float64 {
	return []float64{0, 1, -1, 7, -100, 4095, 65535, -65535, 65536, -65536}
}

// noParts: what it may not be: not whole, too great, a nought with a sign, not finite.
func noParts() []float64 {
	return []float64{
		0.5, -0.5, 1.5, -65535.5, 65535.75, 1 + 0x1p-52, 0x1p-1074, -0x1p-1074, 0x1p-30,
		65537, -65537, 65536.5, -65536.5, 65536 + 0x1p-36, -65536 - 0x1p-36, 65538, 1 << 20, -1 << 20, 1 << 32, 1 << 53, -1 << 63, math.MaxFloat64, -math.MaxFloat64,
		sample.MinusNought(), math.NaN(), math.Float64frombits(0xfff0000000000001), math.Inf(1), math.Inf(-1),
	}
}

func worths() []complex128 {
	var out []complex128
	for _, re := range parts() {
		for _, im := range parts() {
			out = append(out, complex(re, im))
		}
	}
	return out
}

// noWorths: those with one part that is none, and with two of them.
func noWorths() []complex128 {
	var out []complex128
	for _, wrong := range noParts() {
		for _, part := range parts() {
			out = append(out, complex(wrong, part), complex(part, wrong))
		}
		out = append(out, complex(wrong, wrong))
	}
	return out
}

// few: of each kind, in the field of view, across its edges, around it, beside it and at the ends of the reach.
func few() []api.Shape {
	return []api.Shape{
		rect(0, 0, 1, 1, 5-1i), disc(1, 1, 2, 2), wedge(0, 0, 3, 3, -7i), rect(-1024, -1024, 1024, 1024, 1), rect(-3, -2, 1024, 1024, -65536+65536i), disc(0, 0, 0, 65536-65536i), disc(-1024, 1024, 1024*1024, 3),
		wedge(1024, -1024, 1024, 1, -65536-65536i), wedge(-5, -6, 9, 14, 12+34i), rect(1024, 1024, 1, 1024, 0), disc(30, 30, 700, -1-1i), wedge(2, 1, 60, 1024, 65535), rect(5, 6, 7, 8, 3i), disc(0, 1, 1024*1024, 9), rect(0, 0, 64, 1, 65536), wedge(-1, 0, 2, 2, -65536i),
	}
}

// noShapes: each with one thing that no shape has, their worths well.
func noShapes() []api.Shape {
	out := []api.Shape{{}, {Worth: 1}, {Kind: 4, A: 1, B: 1}, {Kind: -1, A: 1, B: 1, Worth: 5}, {Kind: api.Disc, A: 4, B: 1, Worth: 2}, {Kind: api.Disc, A: 4, B: -1}}
	for _, a := range append(sample.Ends(), 0, -1, 1025) {
		out = append(out, rect(1, 1, a, 2, 1), rect(1, 1, 2, a, 1), wedge(1, 1, a, 2, 2i), wedge(1, 1, 2, a, 2i))
	}
	for _, a := range append(sample.Ends(), -1025, 1025) {
		out = append(out, rect(a, 1, 2, 2, 5), rect(1, a, 2, 2, 5), disc(a, 1, 2, 5), disc(1, a, 2, 5), wedge(a, 1, 2, 2, 5), wedge(1, a, 2, 2, 5), api.Shape{Kind: a, A: 2, B: 2, Worth: 3})
	}
	for _, a := range append(sample.Ends(), -1, 1024*1024+1) {
		out = append(out, disc(1, 1, a, 5))
	}
	return out
}

// many: so many shapes, with other worths each time they come round.
func many(k int) []api.Shape {
	out := make([]api.Shape, k)
	for i := range out {
		out[i] = few()[i%len(few())]
		out[i].Worth += complex(0, float64(-i/len(few())))
	}
	return out
}

// sound: phantoms of no shape (both ways of saying it), of one, of two that cancel out, of 16, and of any.
func sound(n int) []api.Phantom {
	out := []api.Phantom{{N: n}, {N: n, Shapes: []api.Shape{}}, of(n, many(16)...), of(n, many(15)...), of(n, rect(0, 0, 2, 2, 5-7i), disc(0, 0, 2, -5+7i)), of(n, rect(0, 0, 9, 9, 5), wedge(1, 0, 9, 9, 4i), rect(0, 0, 9, 9, -5), disc(0, 1, 30, -4i))}
	for _, s := range few() {
		out = append(out, of(n, s))
	}
	for _, sign := range []complex128{1, -1, 1i, -1 + 1i} { // 16 times the greatest worth comes to just the greatest part of a cell
		all := make([]api.Shape, 16)
		for i := range all {
			all[i] = rect(-i, -i, 64+i, 32+i, complex(65536*real(sign), 65536*imag(sign)))
		}
		out = append(out, api.Phantom{N: n, Shapes: all})
	}
	return append(out, anyOf(n, 10)...)
}

// anyOf: so many, of shapes most of which have an edge in the field of view.
func anyOf(n, many int) []api.Phantom {
	d := sample.Dice(n)
	pick := func(low, high int) int { return low + int(d.Word()%uint64(high-low+1)) }
	out := make([]api.Phantom, many)
	for i := range out {
		out[i].N = n
		for range pick(1, 16) {
			x, y, re, im := pick(-n, n), pick(-n, n), pick(-65536, 65536), pick(-3, 3)
			s := api.Shape{Kind: pick(1, 3), X: x, Y: y, A: pick(1, 2*n), B: pick(1, 2*n), Worth: complex(float64(re), float64(im))}
			if s.Kind == api.Disc {
				s.A, s.B = pick(0, n*n), 0
			}
			out[i].Shapes = append(out[i].Shapes, s)
		}
	}
	return out
}

// A flaw is a phantom that isn't sound, with the error that is to be told of it.
type flaw struct {
	p    api.Phantom
	want api.Errno
}

// with: 16 shapes, one of them another one.
func with(at int, s api.Shape) []api.Shape {
	out := many(16)
	out[at] = s
	return out
}

// worthless: a shape with a worth that is none.
func worthless(s api.Shape) api.Shape {
	s.Worth = complex(65537, 0)
	return s
}

// flaws: each fault alone, and each with those that come behind it.
func flaws() []flaw {
	var out []flaw
	none := noShapes()
	for _, n := range sample.NoSides() {
		for _, shapes := range [][]api.Shape{nil, {}, many(1), many(16), many(17), {none[0]}, {worthless(few()[0])}, make([]api.Shape, 17)} {
			out = append(out, flaw{api.Phantom{N: n, Shapes: shapes}, api.ErrArg})
		}
	}
	for _, n := range []int{1, 5, 64} {
		for _, shapes := range [][]api.Shape{many(17), many(18), many(33), make([]api.Shape, 17), append(many(16), none[0]), append(many(16), worthless(few()[0])), append([]api.Shape{none[0]}, many(16)...), append([]api.Shape{worthless(few()[0])}, many(16)...), make([]api.Shape, 70000)} {
			out = append(out, flaw{api.Phantom{N: n, Shapes: shapes}, api.ErrLong})
		}
		for _, s := range none {
			out = append(out, flaw{of(n, s), api.ErrShape}, flaw{of(n, worthless(s)), api.ErrShape}, flaw{of(n, s, worthless(few()[0])), api.ErrShape}, flaw{of(n, worthless(few()[0]), s), api.ErrWorth})
		}
		for i, worth := range noWorths() {
			s := few()[i%len(few())]
			s.Worth = worth
			out = append(out, flaw{of(n, s), api.ErrWorth}, flaw{of(n, s, none[i%len(none)]), api.ErrWorth}, flaw{of(n, few()[0], s), api.ErrWorth})
		}
		for at := range 16 {
			out = append(out, flaw{of(n, with(at, none[0])...), api.ErrShape}, flaw{of(n, with(at, worthless(few()[at]))...), api.ErrWorth})
		}
	}
	return out
}

// refused: with that error, and nothing beside it.
func refused(t *testing.T, name string, empty bool, e, want api.Errno) {
	t.Helper()
	if e != want || !empty {
		t.Errorf("%s: error %d, not %d, or something beside it", name, e, want)
	}
}

func noGrid(g api.Grid) bool { return g.N == 0 && len(g.Cells) == 0 }

func noPhantom(p api.Phantom) bool { return p.N == 0 && len(p.Shapes) == 0 }

// right: what was answered without an error.
func right[T any](t *testing.T, got T, e api.Errno) T {
	t.Helper()
	if e != api.OK {
		t.Fatalf("error %d", e)
	}
	return got
}
