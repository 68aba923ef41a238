package sample

import (
	"math"

	"penumbra/api"
)

// Rect: one of that place, measures and worth; Disc and Wedge likewise.
func Rect(x, y, a, b int, worth complex128) api.Shape {
	return api.Shape{Kind: api.Rect, X: x, Y: y, A: a, B: b, Worth: worth}
}

// Disc: see Rect.
func Disc(x, y, a int, worth complex128) api.Shape {
	return api.Shape{Kind: api.Disc, X: x, Y: y, A: a, Worth: worth}
}

// Wedge: see Rect.
func Wedge(x, y, a, b int, worth complex128) api.Shape {
	return api.Shape{Kind: api.Wedge, X: x, Y: y, A: a, B: b, Worth: worth}
}

// worthParts: what a worth's part may be, with the edges.
func worthParts() []float64 {
	return []float64{0, 1, -1, 7, -100, 4095, 65535, -65535, 65536, -65536}
}

// noWorthParts: what it may not be: not whole, too great, a nought with a sign, not finite.
func noWorthParts() []float64 {
	return []float64{
		0.5, -0.5, 1.5, -65535.5, 65535.75, 1 + 0x1p-52, 0x1p-1074, -0x1p-1074, 0x1p-30,
		65537, -65537, 65536.5, -65536.5, 65536 + 0x1p-36, -65536 - 0x1p-36, 65538, 1 << 20, -1 << 20, 1 << 32, 1 << 53, -1 << 63, math.MaxFloat64, -math.MaxFloat64,
		MinusNought(), math.NaN(), math.Float64frombits(0xfff0000000000001), math.Inf(1), math.Inf(-1),
	}
}

// Worths: whole ones, with the edges in either part.
func Worths() []complex128 {
	var out []complex128
	for _, re := range worthParts() {
		for _, im := range worthParts() {
			out = append(out, complex(re, im))
		}
	}
	return out
}

// NoWorths: those with one part that is none, and with two of them.
func NoWorths() []complex128 {
	var out []complex128
	for _, wrong := range noWorthParts() {
		for _, part := range worthParts() {
			out = append(out, complex(wrong, part), complex(part, wrong))
		}
		out = append(out, complex(wrong, wrong))
	}
	return out
}

// Shapes: of each kind, in the field of view, across its edges, around it, beside it and at the ends of the reach.
func Shapes() []api.Shape {
	return []api.Shape{
		Rect(0, 0, 1, 1, 5-1i), Disc(1, 1, 2, 2), Wedge(0, 0, 3, 3, -7i), Rect(-1024, -1024, 1024, 1024, 1), Rect(-3, -2, 1024, 1024, -65536+65536i), Disc(0, 0, 0, 65536-65536i), Disc(-1024, 1024, 1024*1024, 3),
		Wedge(1024, -1024, 1024, 1, -65536-65536i), Wedge(-5, -6, 9, 14, 12+34i), Rect(1024, 1024, 1, 1024, 0), Disc(30, 30, 700, -1-1i), Wedge(2, 1, 60, 1024, 65535), Rect(5, 6, 7, 8, 3i), Disc(0, 1, 1024*1024, 9), Rect(0, 0, 64, 1, 65536), Wedge(-1, 0, 2, 2, -65536i),
	}
}

// NoShapes: each with one thing that no shape has, their worths well.
func NoShapes() []api.Shape {
	out := []api.Shape{{}, {Worth: 1}, {Kind: 4, A: 1, B: 1}, {Kind: -1, A: 1, B: 1, Worth: 5}, {Kind: api.Disc, A: 4, B: 1, Worth: 2}, {Kind: api.Disc, A: 4, B: -1}}
	for _, a := range append(Ends(), 0, -1, 1025) {
		out = append(out, Rect(1, 1, a, 2, 1), Rect(1, 1, 2, a, 1), Wedge(1, 1, a, 2, 2i), Wedge(1, 1, 2, a, 2i))
	}
	for _, a := range append(Ends(), -1025, 1025) {
		out = append(out, Rect(a, 1, 2, 2, 5), Rect(1, a, 2, 2, 5), Disc(a, 1, 2, 5), Disc(1, a, 2, 5), Wedge(a, 1, 2, 2, 5), Wedge(1, a, 2, 2, 5), api.Shape{Kind: a, A: 2, B: 2, Worth: 3})
	}
	for _, a := range append(Ends(), -1, 1024*1024+1) {
		out = append(out, Disc(1, 1, a, 5))
	}
	return out
}

// Many: so many shapes, with other worths each time they come round.
func Many(k int) []api.Shape {
	out := make([]api.Shape, k)
	few := Shapes()
	for i := range out {
		out[i] = few[i%len(few)]
		out[i].Worth += complex(0, float64(-i/len(few)))
	}
	return out
}
