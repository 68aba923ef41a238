package phantom_test

import (
	"math"
	"testing"

	"penumbra/api"
	"penumbra/phantom"
	"penumbra/sample"
)

// P8.1: the chapter's examples.
func TestExamples(t *testing.T) {
	p := sample.Phantom(4, sample.Rect(1, 1, 2, 2, 5-1i), sample.Disc(0, 0, 1, 2))
	text := "phantom 4\nrect 1 1 2 2 5 -1\ndisc 0 0 1 2 0\n"
	if got, e := phantom.Parse(text); !sample.SamePhantom(right(t, got, e), p) {
		t.Errorf("Parse: %v", got)
	}
	if got, e := phantom.Text(p); right(t, got, e) != text {
		t.Errorf("Text: %q", got)
	}
	if phantom.Value(p, 1, 1) != 5-1i || phantom.Value(p, 0, 0) != 2 || phantom.Value(p, 1, 0) != 2 {
		t.Error("Value")
	}
	if mass, e := phantom.Mass(p); right(t, mass, e) != 26-4i {
		t.Errorf("Mass: %v", mass)
	}
	for _, s := range []string{"", "phantom 4", "phantom 04\n", "phantom 4\nrect 1 1 2 2 5\n", "phantom 4\n\n", "phantom 4\ndisc 0 0 1 -0 0\n"} {
		got, e := phantom.Parse(s)
		refused(t, s, noPhantom(got), e, api.ErrPage)
	}
}

// P8.1: the whole of an answer, written out.
func TestWrittenOut(t *testing.T) {
	p := sample.Phantom(3, sample.Rect(-1, 1, 3, 1, 5), sample.Wedge(1, 0, 2, 2, -5+2i), sample.Disc(2, 3, 1, 7i))
	g, e := phantom.Raster(p)
	for j, want := range []complex128{0, -5 + 2i, -5 + 2i, 5, 2i, 0, 0, 0, 7i} {
		if right(t, g, e); g.N != 3 || len(g.Cells) != 9 || !sample.Agree(g.Cells[j], want) {
			t.Errorf("cell %d: %v, not %v", j, g.Cells[j], want)
		}
	}
	if mass, e := phantom.Mass(p); right(t, mass, e) != -5+13i {
		t.Errorf("Mass: %v", mass)
	}
	if text, e := phantom.Text(p); right(t, text, e) != "phantom 3\nrect -1 1 3 1 5 0\nwedge 1 0 2 2 -5 2\ndisc 2 3 1 0 7\n" {
		t.Errorf("Text: %q", text)
	}
	if phantom.Value(p, 2, 4) != 7i || phantom.Value(p, -1, 1) != 5 || phantom.Value(p, -2, 1) != 0 || phantom.Value(p, 3, 3) != 7i {
		t.Error("Value outside of the field of view")
	}
}

// P8.1: what is sound, at every side, number of shapes, shape and worth; what isn't, and which error is told where several fit.
func TestCheck(t *testing.T) {
	for n := 1; n <= 64; n++ {
		for _, p := range sample.Phantoms(n) {
			if e := phantom.Check(p); e != api.OK || fault(p) != api.OK {
				t.Fatalf("%v: error %d", p, e)
			}
		}
		for k := range 17 {
			if e := phantom.Check(sample.Phantom(n, sample.Many(k)...)); e != api.OK {
				t.Fatalf("side %d, %d shapes: error %d", n, k, e)
			}
		}
	}
	for _, s := range sample.Shapes() {
		for _, s.Worth = range sample.Worths() {
			if e := phantom.Check(sample.Phantom(1, s)); e != api.OK {
				t.Fatalf("%v: error %d", s, e)
			}
		}
	}
	for _, f := range sample.Flaws() {
		if e := phantom.Check(f.Phantom); e != f.Want || fault(f.Phantom) != f.Want {
			t.Fatalf("side %d, %d shapes, %.3v: error %d, not %d", f.Phantom.N, len(f.Phantom.Shapes), f.Phantom.Shapes, e, f.Want)
		}
	}
}

// P8.1: any bits of a worth, in either part.
func TestCheckOfAnyBits(t *testing.T) {
	d := sample.Dice(8)
	for _, part := range []func() float64{d.AnyBits, d.Near, d.Between(-5, 18), d.Whole, d.Extreme, d.Edge, d.Tiny, d.Sign} {
		for range 2000 {
			for _, worth := range []complex128{complex(part(), 0), complex(-3, part()), complex(part(), part())} {
				p := sample.Phantom(2, sample.Disc(0, 0, 1, worth))
				if e := phantom.Check(p); e != fault(p) {
					t.Fatalf("%v: error %d, not %d", worth, e, fault(p))
				}
			}
		}
	}
}

// P8.1: each call that answers an error tells Check's, and nothing beside it; Value tells 0.
func TestUnsound(t *testing.T) {
	for _, f := range sample.Flaws() {
		g, e := phantom.Raster(f.Phantom)
		refused(t, "Raster", noGrid(g), e, f.Want)
		mass, e := phantom.Mass(f.Phantom)
		refused(t, "Mass", sample.Agree(mass, 0), e, f.Want)
		text, e := phantom.Text(f.Phantom)
		refused(t, "Text", text == "", e, f.Want)
		for _, d := range [][2]int{{0, 0}, {1, -1}, {math.MaxInt, math.MinInt}} { // ahead of ErrShape of the move itself
			moved, e := phantom.Moved(f.Phantom, d[0], d[1])
			refused(t, "Moved", noPhantom(moved), e, f.Want)
		}
		for _, c := range [][2]int{{0, 0}, {1, 1}, {-1, -1}, {math.MaxInt, math.MinInt}} {
			if v := phantom.Value(f.Phantom, c[0], c[1]); !sample.Agree(v, 0) {
				t.Errorf("Value of what isn't sound: %v", v)
			}
		}
	}
}

// P8.1: values in the field of view, about it, far from it and at the ends of int.
func TestValue(t *testing.T) {
	for _, n := range sides() {
		for i, p := range sample.Phantoms(n) {
			far := append(sample.Ends(), -1024, -1025, -2048, -2049, 1023, 1024, 1025, 2047, 2048)
			for _, x := range append(far, 0, 1, n-1, n) {
				for _, y := range append(far, 0, -1, n-1, n) {
					if got := phantom.Value(p, x, y); !sample.Agree(got, value(p, x, y)) {
						t.Fatalf("%v, (%d, %d): %v", p, x, y, got)
					}
				}
			}
			for y := -3; y < n+4; y++ {
				for x := -3 - i%2; x < n+4; x += 1 + n/20 {
					if got := phantom.Value(p, x, y); !sample.Agree(got, value(p, x, y)) {
						t.Fatalf("%v, (%d, %d): %v", p, x, y, got)
					}
				}
			}
		}
	}
}

// P8.1: worths that cancel out leave noughts without a sign, and the greatest ones add up to the greatest part of a cell.
func TestSums(t *testing.T) {
	for _, w := range sample.Worths() {
		p := sample.Phantom(2, sample.Rect(0, 0, 2, 2, w), sample.Rect(0, 0, 1, 2, complex(0-real(w), 0-imag(w))))
		if v := phantom.Value(p, 0, 1); !sample.Agree(v, 0) {
			t.Errorf("%v cancelled out: %v", w, v)
		}
		if v := phantom.Value(p, 1, 1); !sample.Agree(v, w) {
			t.Errorf("%v alone: %v", w, v)
		}
		g, e := phantom.Raster(p)
		for j, want := range []complex128{0, w, 0, w} {
			if !sample.Agree(right(t, g, e).Cells[j], want) {
				t.Errorf("%v, cell %d: %v", w, j, g.Cells[j])
			}
		}
		aside := sample.Phantom(2, sample.Rect(5, 5, 1, 1, w), sample.Rect(2, 0, 1, 1, w))
		if mass, e := phantom.Mass(aside); !sample.Agree(right(t, mass, e), 0) {
			t.Errorf("%v outside of the field of view: mass %v", w, mass)
		}
		all := make([]api.Shape, 16)
		for i := range all {
			all[i] = sample.Rect(0, 0, 64, 64, w)
		}
		if v := phantom.Value(sample.Phantom(64, all...), 63, 63); !sample.Agree(v, complex(16*real(w), 16*imag(w))) {
			t.Errorf("16 times %v: %v", w, v)
		}
		if mass, e := phantom.Mass(sample.Phantom(64, all...)); !sample.Agree(right(t, mass, e), complex(65536*real(w), 65536*imag(w))) {
			t.Errorf("65536 times %v: %v", w, mass)
		}
	}
}

// P8.1: grids cell by cell, and their mass, both of the rules and of Value.
func TestRasterAndMass(t *testing.T) {
	for _, n := range sides() {
		for _, p := range append(sample.Phantoms(n), sample.AnyPhantoms(n, 20)...) {
			g, e := phantom.Raster(p)
			if right(t, g, e); g.N != n || len(g.Cells) != n*n {
				t.Fatalf("%v: side %d, %d cells", p, g.N, len(g.Cells))
			}
			re, im := 0, 0
			for y := range n {
				for x := range n {
					v := g.Cells[y*n+x]
					if !sample.Agree(v, value(p, x, y)) || !sample.Agree(v, phantom.Value(p, x, y)) {
						t.Fatalf("%v, (%d, %d): %v", p, x, y, v)
					}
					a, b := sums(p, x, y)
					re, im = re+a, im+b
				}
			}
			if mass, e := phantom.Mass(p); !sample.Agree(right(t, mass, e), number(re, im)) {
				t.Fatalf("%v: mass %v, not %d, %d", p, mass, re, im)
			}
		}
	}
}

// movedBy: every shape so far away, and whether all of them are within reach.
func movedBy(p api.Phantom, dx, dy int) (api.Phantom, bool) {
	within := func(at, by int) bool { return by >= -1024-at && by <= 1024-at }
	out := api.Phantom{N: p.N}
	for _, s := range p.Shapes {
		if !within(s.X, dx) || !within(s.Y, dy) {
			return api.Phantom{}, false
		}
		s.X += dx
		s.Y += dy
		out.Shapes = append(out.Shapes, s)
	}
	return out, true
}

// P8.1: moved by 0, to the end of the reach, one beyond it, and by the ends of int; what has no shape goes anywhere.
func TestMoved(t *testing.T) {
	for _, n := range []int{1, 7, 64} {
		for _, p := range append(sample.Phantoms(n), sample.Phantom(n, sample.Disc(-1024, 1024, 5, 1)), sample.Phantom(n, sample.Rect(5, 5, 1, 1, 2), sample.Rect(6, 1000, 1, 1, 3), sample.Disc(-1000, 2, 4, 4i))) {
			steps := append(sample.Ends(), 0, 1, -1, 24, 25, -24, -25, 18, 19, 2048, -2048, 2049, -2049)
			for _, s := range p.Shapes {
				steps = append(steps, 1024-s.X, 1025-s.X, -1024-s.Y, -1025-s.Y)
			}
			for i, dx := range steps {
				for _, dy := range []int{0, 1, -2, dx, steps[len(steps)-1-i]} {
					got, e := phantom.Moved(p, dx, dy)
					want, ok := movedBy(p, dx, dy)
					if !ok {
						refused(t, "Moved beyond the reach", noPhantom(got), e, api.ErrShape)
					} else if !sample.SamePhantom(right(t, got, e), want) {
						t.Fatalf("%v by %d, %d: %v", p, dx, dy, got)
					}
				}
			}
		}
	}
}

// P8.1: one shape beyond the reach, at whatever place, and none is moved.
func TestMovedOneBeyond(t *testing.T) {
	for at := range 16 {
		all := make([]api.Shape, 16)
		for i := range all {
			all[i] = sample.Rect(i, -i, 3, 4, number(i, 1))
		}
		for _, s := range []api.Shape{sample.Rect(1000, 0, 1, 1, 1), sample.Disc(0, 1000, 1, 1), sample.Wedge(1000, 1000, 1, 1, 1)} {
			all[at] = s
			got, e := phantom.Moved(sample.Phantom(9, all...), 25, 25)
			refused(t, "Moved, one beyond the reach", noPhantom(got), e, api.ErrShape)
			_, e = phantom.Moved(sample.Phantom(9, all...), 24, 24)
			right(t, at, e)
		}
	}
}

// P8.1: a's shapes, then b's, up to 16 of them together.
func TestJoin(t *testing.T) {
	for _, n := range sides() {
		for i := range 17 {
			for j := range 17 {
				a, b := sample.Phantom(n, sample.Many(i)...), sample.Phantom(n, sample.AnyPhantoms(n, 1)[0].Shapes...)
				for len(b.Shapes) < j {
					b.Shapes = append(b.Shapes, sample.Wedge(len(b.Shapes), 0, 3, 3, -1i))
				}
				b.Shapes = b.Shapes[:j]
				got, e := phantom.Join(a, b)
				if i+j > 16 {
					refused(t, "Join of too many", noPhantom(got), e, api.ErrLong)
					continue
				}
				if want := sample.Phantom(n, append(sample.Many(i), b.Shapes...)...); !sample.SamePhantom(right(t, got, e), want) {
					t.Fatalf("%v and %v: %v", a, b, got)
				}
			}
		}
		for _, p := range sample.Phantoms(n) { // with itself
			got, e := phantom.Join(p, p)
			if 2*len(p.Shapes) > 16 {
				refused(t, "Join with itself", noPhantom(got), e, api.ErrLong)
			} else if !sample.SamePhantom(right(t, got, e), sample.Phantom(n, append(append([]api.Shape{}, p.Shapes...), p.Shapes...)...)) {
				t.Fatalf("%v twice: %v", p, got)
			}
		}
	}
}

// P8.1: Check of a, then of b, then unlike sides, then too many shapes.
func TestJoinRefused(t *testing.T) {
	all := sample.Flaws()
	for i, f := range all {
		for _, b := range []api.Phantom{sample.Phantom(1), sample.Phantom(5, sample.Many(16)...), sample.Phantom(64, sample.Shapes()[0]), all[(i*7+3)%len(all)].Phantom} {
			got, e := phantom.Join(f.Phantom, b)
			refused(t, "Join, the first one not sound", noPhantom(got), e, f.Want)
		}
		for _, a := range []api.Phantom{sample.Phantom(1), sample.Phantom(5, sample.Many(16)...), sample.Phantom(64, sample.Shapes()[0])} {
			got, e := phantom.Join(a, f.Phantom)
			refused(t, "Join, the second one not sound", noPhantom(got), e, f.Want)
		}
	}
	for _, n := range []int{1, 2, 64} {
		for _, k := range []int{1, 2, 63, 64} {
			for _, c := range [][2]int{{0, 0}, {1, 0}, {3, 4}, {16, 0}, {8, 9}, {16, 16}} {
				got, e := phantom.Join(sample.Phantom(n, sample.Many(c[0])...), sample.Phantom(k, sample.Many(c[1])...))
				if n != k {
					refused(t, "Join of unlike sides", noPhantom(got), e, api.ErrArg)
				}
			}
		}
	}
}
