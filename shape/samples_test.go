package shape_test

import (
	"math"
	"testing"

	"penumbra/api"
	"penumbra/sample"
)

func rect(x, y, a, b int) api.Shape { return api.Shape{Kind: api.Rect, X: x, Y: y, A: a, B: b} }

func disc(x, y, a int) api.Shape { return api.Shape{Kind: api.Disc, X: x, Y: y, A: a} }

func wedge(x, y, a, b int) api.Shape { return api.Shape{Kind: api.Wedge, X: x, Y: y, A: a, B: b} }

// shapes: about a grid of side n: in it, across each of its edges and corners, around all of it, beside it and far away.
func shapes(n int) []api.Shape {
	var out []api.Shape
	places := []int{-1024, -n, -2, -1, 0, n / 2, n - 1, n, 1024}
	for _, x := range places {
		for _, y := range places {
			for _, a := range []int{1, 2, n + 2, 1024} {
				for _, b := range []int{1, 3, n, 1024} {
					out = append(out, rect(x, y, a, b), wedge(x, y, a, b))
				}
			}
			for _, a := range []int{0, 1, 2, 5, n, n * n, 2*n*n + 1, 1024*1024 - 1, 1024 * 1024} {
				out = append(out, disc(x, y, a))
			}
		}
	}
	return append(out, far()...)
}

// far: those whose edge, seen from the greatest distance, lies in the grid or just beside it.
func far() []api.Shape {
	out := []api.Shape{rect(-1024, -1024, 1024, 1024), wedge(-512, -512, 1024, 1024), wedge(-511, -512, 1024, 1024), wedge(-1000, -20, 1024, 1023), wedge(-3, -1020, 7, 1024)}
	for _, x := range []int{-1024, 1024} {
		for _, y := range []int{-30, -1, 0, 3, 40} {
			out = append(out, disc(x, y, 1024*1024), disc(y, x, 1024*1024), disc(x, y, 1000*1000), disc(y, x, 1023*1023+7))
		}
	}
	for _, x := range []int{-740, -724, -720, 724, 740, 780} {
		out = append(out, disc(x, -724, 1024*1024), disc(-700, x, 1024*1024), disc(x, 750, 1024*1024-3))
	}
	return out
}

// anyShapes: as many as asked for, most of them with an edge in a grid of side n.
func anyShapes(n, many int) []api.Shape {
	d := sample.Dice(n)
	pick := func(low, high int) int { return low + int(d.Word()%uint64(high-low+1)) }
	var out []api.Shape
	for range many {
		x, y := pick(-n, 2*n), pick(-n, 2*n)
		out = append(out, rect(x, y, pick(1, 2*n), pick(1, 2*n)), disc(x, y, pick(0, 4*n*n)), wedge(x, y, pick(1, 3*n), pick(1, 3*n)), wedge(pick(-1024, n), y, pick(900, 1024), pick(1, 1024)), disc(pick(-1024, 1024), pick(-1024, 1024), pick(0, 1024*1024)))
	}
	return out
}

// few: one of each kind and some more, all of them shapes.
func few() []api.Shape {
	return []api.Shape{
		rect(0, 0, 1, 1), rect(1, -2, 3, 7), rect(-1024, -1024, 1024, 1024), rect(1024, 1024, 1024, 1024), rect(-1024, 1024, 1, 1024), rect(-5, 7, 1024, 1),
		disc(0, 0, 0), disc(2, 2, 4), disc(-3, 8, 5), disc(1024, -1024, 1024*1024), disc(-1024, 1024, 1024*1024-1), disc(10, 20, 2), disc(-1, 0, 1),
		wedge(0, 0, 3, 3), wedge(-4, 5, 7, 2), wedge(1024, 1024, 1024, 1024), wedge(-1024, -1024, 1024, 1), wedge(-1024, 1024, 1, 1024), wedge(6, 0, 1, 1), wedge(0, -9, 1024, 1023),
	}
}

// noShapes: those that have one thing that no shape has, and some that have more.
func noShapes() []api.Shape {
	var out []api.Shape
	for _, kind := range append(sample.Ends(), 0, 4, 5, -1, -2, -3, 255, 257) {
		for _, s := range few() {
			s.Kind = kind
			out = append(out, s)
		}
	}
	for _, a := range append(sample.Ends(), -1025, 1025, 2048, -4096) {
		out = append(out, rect(a, 0, 5, 5), rect(0, a, 5, 5), disc(a, 0, 9), disc(0, a, 9), wedge(a, 0, 5, 5), wedge(0, a, 5, 5), rect(a, a, a, a))
	}
	for _, a := range append(sample.Ends(), -1024, -5, -1, 0, 1025, 1024*1024) {
		out = append(out, rect(0, 0, a, 5), rect(0, 0, 5, a), wedge(0, 0, a, 5), wedge(0, 0, 5, a), wedge(0, 0, a, a))
	}
	for _, a := range append(sample.Ends(), -1024*1024, -4, -1, 1024*1024+1, 1024*1024+1024) {
		out = append(out, disc(0, 0, a))
	}
	for _, b := range append(sample.Ends(), -1024, -1, 1, 2, 5, 1024) {
		s := disc(2, 2, 4)
		s.B = b
		out = append(out, s)
	}
	return out
}

// worths: any bits are well, since they are another layer's business.
func worths() []complex128 {
	return []complex128{0, 5, -3 + 2i, complex(sample.MinusNought(), 0.5), complex(math.NaN(), math.Inf(-1)), complex(1<<17, -1<<60)}
}

// refused: with that error, and nothing beside it.
func refused[T comparable](t *testing.T, name string, got T, e, want api.Errno) {
	t.Helper()
	var none T
	if e != want || got != none {
		t.Errorf("%s: %v, error %d, not %d", name, got, e, want)
	}
}

// right: what was answered without an error.
func right[T any](t *testing.T, got T, e api.Errno) T {
	t.Helper()
	if e != api.OK {
		t.Fatalf("error %d", e)
	}
	return got
}
