package sample

import (
	"math"
	"slices"

	"penumbra/api"
)

// Phantom: one of these shapes.
func Phantom(n int, shapes ...api.Shape) api.Phantom { return api.Phantom{N: n, Shapes: shapes} }

// Phantoms: phantoms of no shape (both ways of saying it), of one, of two that cancel out, of 16, and of any.
func Phantoms(n int) []api.Phantom {
	out := []api.Phantom{{N: n}, {N: n, Shapes: []api.Shape{}}, Phantom(n, Many(16)...), Phantom(n, Many(15)...), Phantom(n, Rect(0, 0, 2, 2, 5-7i), Disc(0, 0, 2, -5+7i)), Phantom(n, Rect(0, 0, 9, 9, 5), Wedge(1, 0, 9, 9, 4i), Rect(0, 0, 9, 9, -5), Disc(0, 1, 30, -4i))}
	for _, s := range Shapes() {
		out = append(out, Phantom(n, s))
	}
	for _, sign := range []complex128{1, -1, 1i, -1 + 1i} { // 16 times the greatest worth comes to just the greatest part of a cell
		all := make([]api.Shape, 16)
		for i := range all {
			all[i] = Rect(-i, -i, 64+i, 32+i, complex(65536*real(sign), 65536*imag(sign)))
		}
		out = append(out, api.Phantom{N: n, Shapes: all})
	}
	return append(out, AnyPhantoms(n, 10)...)
}

// AnyPhantoms: so many, of shapes most of which have an edge in the field of view.
func AnyPhantoms(n, many int) []api.Phantom {
	d := Dice(n)
	pick := func(low, high int) int { return low + int(d.Word()%uint64(high-low+1)) }
	out := make([]api.Phantom, many)
	for i := range out {
		out[i].N = n
		for range pick(1, 16) {
			x, y, re, im := pick(-n, n), pick(-n, n), pick(-65536, 65536), pick(-3, 3)
			s := api.Shape{Kind: pick(1, 3), X: x, Y: y, A: pick(1, 2*n), B: pick(1, 2*n), Worth: complex(float64(re), float64(im))}
			if s.Kind == api.Disc {
				s.A, s.B = pick(0, n*n), 0
			}
			out[i].Shapes = append(out[i].Shapes, s)
		}
	}
	return out
}

// Bare: shapes of every kind that have no cell in a field of view of side n, near its edges and far away.
func Bare(n int) api.Phantom {
	return Phantom(n,
		Rect(n, 0, 5, 5, 7), Rect(0, n, 5, 5, -7i), Rect(-5, 0, 5, 64, 65536), Rect(0, -1024, 1024, 1024, -65536),
		Disc(-1, -1, 1, 9), Disc(n, n, 1, -9+2i), Disc(-1, n, 0, 5), Disc(1024, -1024, 1024*1024, 3),
		Wedge(-5, 0, 5, 5, 11), Wedge(-2, -2, 3, 3, -11i), Wedge(n, n-1, 1024, 1024, 65536i), Wedge(1024, 1024, 1024, 1024, 1),
	)
}

// Waste: shapes over each other whose worths cancel out in some cells, in some lines, or in all of them.
func Waste(n int) []api.Phantom {
	left, right := Rect(0, 0, (n+1)/2, n, 3-2i), Rect(n/2, 0, (n+1)/2, n, -3+2i)
	return []api.Phantom{
		Phantom(n, Rect(0, 0, n, n, -1), Rect(0, 0, n, n, 1)),
		Phantom(n, Disc(n/2, n/2, n, 65536-65536i), Disc(n/2, n/2, n, -65536+65536i)),
		Phantom(n, Wedge(0, 0, n, n, -5i), Wedge(0, 0, n, n, 3i), Wedge(0, 0, n, n, 2i)),
		Phantom(n, left, right),
		Phantom(n, Rect(0, 0, 1, 1, -4), Rect(n-1, n-1, 1, 1, 4)),
		Phantom(n, Rect(0, 0, n, n, -7i), Disc(0, 0, n*n, 7i), Wedge(-1, -1, n, 2*n, 7)),
		Phantom(n, Rect(0, 0, n, n, 0), Disc(0, 0, 4, -1)),
	}
}

// Brimful: 16 times the greatest worth in all cells, each sign in both parts.
func Brimful(n int) []api.Phantom {
	var out []api.Phantom
	for _, worth := range []complex128{65536, -65536, 65536i, -65536i, 65536 + 65536i, -65536 + 65536i, 65536 - 65536i, -65536 - 65536i} {
		all := make([]api.Shape, 16)
		for i := range all {
			all[i] = []api.Shape{Rect(-i, -1, 1024, 1024, worth), Disc(i, 3, 1024*1024, worth), Wedge(-1, -i, 1024, 1024, worth)}[i%3]
		}
		out = append(out, api.Phantom{N: n, Shapes: all})
	}
	return out
}

// AllPhantoms: sound ones of side n, of every kind.
func AllPhantoms(n int) []api.Phantom {
	return slices.Concat(Phantoms(n), []api.Phantom{Bare(n)}, Waste(n), Brimful(n))
}

// A Flaw is a phantom that isn't sound, with the error that is to be told of it.
type Flaw struct {
	Phantom api.Phantom
	Want    api.Errno
}

// with: 16 shapes, one of them another one.
func with(at int, s api.Shape) []api.Shape {
	out := Many(16)
	out[at] = s
	return out
}

// worthless: a shape with a worth that is none.
func worthless(s api.Shape) api.Shape {
	s.Worth = complex(65537, 0)
	return s
}

// Flaws: each fault alone, and each with those that come behind it.
func Flaws() []Flaw {
	var out []Flaw
	none := NoShapes()
	for _, n := range NoSides() {
		for _, shapes := range [][]api.Shape{nil, {}, Many(1), Many(16), Many(17), {none[0]}, {worthless(Shapes()[0])}, make([]api.Shape, 17)} {
			out = append(out, Flaw{api.Phantom{N: n, Shapes: shapes}, api.ErrArg})
		}
	}
	for _, n := range []int{1, 5, 64} {
		for _, shapes := range [][]api.Shape{Many(17), Many(18), Many(33), make([]api.Shape, 17), append(Many(16), none[0]), append(Many(16), worthless(Shapes()[0])), append([]api.Shape{none[0]}, Many(16)...), append([]api.Shape{worthless(Shapes()[0])}, Many(16)...), make([]api.Shape, 70000)} {
			out = append(out, Flaw{api.Phantom{N: n, Shapes: shapes}, api.ErrLong})
		}
		for _, s := range none {
			out = append(out, Flaw{Phantom(n, s), api.ErrShape}, Flaw{Phantom(n, worthless(s)), api.ErrShape}, Flaw{Phantom(n, s, worthless(Shapes()[0])), api.ErrShape}, Flaw{Phantom(n, worthless(Shapes()[0]), s), api.ErrWorth})
		}
		for i, worth := range NoWorths() {
			s := Shapes()[i%len(Shapes())]
			s.Worth = worth
			out = append(out, Flaw{Phantom(n, s), api.ErrWorth}, Flaw{Phantom(n, s, none[i%len(none)]), api.ErrWorth}, Flaw{Phantom(n, Shapes()[0], s), api.ErrWorth})
		}
		for at := range 16 {
			out = append(out, Flaw{Phantom(n, with(at, none[0])...), api.ErrShape}, Flaw{Phantom(n, with(at, worthless(Shapes()[at]))...), api.ErrWorth})
		}
	}
	return out
}

// SamePhantom: the same fields, the worths bit by bit.
func SamePhantom(a, b api.Phantom) bool {
	return a.N == b.N && slices.EqualFunc(a.Shapes, b.Shapes, func(s, r api.Shape) bool {
		alike := Agree(s.Worth, r.Worth)
		s.Worth, r.Worth = 0, 0
		return alike && s == r
	})
}

// CopyPhantom: one in memory of its own.
func CopyPhantom(p api.Phantom) api.Phantom {
	return api.Phantom{N: p.N, Shapes: slices.Clone(p.Shapes)}
}

// SparePhantom: one with room behind its shapes that holds something, and the whole of that memory.
func SparePhantom(p api.Phantom) (same, all api.Phantom) {
	list := slices.Concat(p.Shapes, Shapes())
	return api.Phantom{N: p.N, Shapes: list[:len(p.Shapes)]}, api.Phantom{N: p.N, Shapes: list}
}

// WipePhantom: all shapes written over, with the room behind them.
func WipePhantom(p api.Phantom) {
	list := p.Shapes[:cap(p.Shapes)]
	for i := range list {
		list[i] = api.Shape{Kind: 99, X: 98, Y: 97, A: 96, B: 95, Worth: complex(math.NaN(), 7)}
	}
}
