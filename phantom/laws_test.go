package phantom_test

import (
	"math"
	"testing"

	"penumbra/api"
	"penumbra/grid"
	"penumbra/phantom"
	"penumbra/sample"
)

// P8.2: Raster of Join is the sum of both Rasters, and Mass that of both Masses.
func TestJoinedRasters(t *testing.T) {
	for _, n := range sides() {
		all := append(sample.Phantoms(n), sample.AnyPhantoms(n, 25)...)
		joined := 0
		for i, a := range all {
			for j := 0; j < len(all); j += 1 + n/4 {
				b := all[(i+j)%len(all)]
				both, e := phantom.Join(a, b)
				if len(a.Shapes)+len(b.Shapes) > 16 {
					refused(t, "Join of too many", noPhantom(both), e, api.ErrLong)
					continue
				}
				joined++
				whole, e := phantom.Raster(right(t, both, e))
				right(t, whole, e)
				one, e := phantom.Raster(a)
				right(t, one, e)
				other, e := phantom.Raster(b)
				right(t, other, e)
				sum, e := grid.Add(one, other)
				right(t, sum, e)
				for k, v := range whole.Cells {
					if !sample.Agree(v, sum.Cells[k]) {
						t.Fatalf("%v and %v, cell %d: %v, not %v", a, b, k, v, sum.Cells[k])
					}
				}
				mass, e := phantom.Mass(both)
				right(t, mass, e)
				first, _ := phantom.Mass(a)
				second, _ := phantom.Mass(b)
				if !sample.Agree(mass, first+second) {
					t.Fatalf("%v and %v: mass %v, not %v", a, b, mass, first+second)
				}
			}
		}
		if joined < 20 {
			t.Errorf("side %d: only %d are joined", n, joined)
		}
	}
}

// P8.2: Mass is the sum of Raster, which is always a sound grid.
func TestMassIsTheSum(t *testing.T) {
	for _, n := range sides() {
		for _, p := range append(sample.Phantoms(n), sample.AnyPhantoms(n, 40)...) {
			g, e := phantom.Raster(p)
			if right(t, g, e); grid.Check(g) != api.OK {
				t.Fatalf("%v: its grid isn't sound", p)
			}
			sum, e := grid.Sum(g)
			right(t, sum, e)
			if mass, e := phantom.Mass(p); !sample.Agree(right(t, mass, e), sum) {
				t.Fatalf("%v: mass %v, not %v", p, mass, sum)
			}
		}
	}
}

// P8.3: a value stands where the move has led it, also far outside of the field of view.
func TestMovedValues(t *testing.T) {
	for _, n := range []int{1, 4, 9} {
		for _, p := range append(sample.AnyPhantoms(n, 25), sample.Phantoms(n)...) {
			for _, d := range [][2]int{{0, 0}, {1, 0}, {0, -1}, {-3, 5}, {n, n}, {1000, -1000}, {-1000, 1000}, {1024, 0}, {0, -1024}} {
				moved, e := phantom.Moved(p, d[0], d[1])
				if _, ok := movedBy(p, d[0], d[1]); !ok {
					refused(t, "Moved beyond the reach", noPhantom(moved), e, api.ErrShape)
					continue
				}
				right(t, moved, e)
				for y := -n - 2; y < 2*n+3; y++ {
					for x := -n - 2; x < 2*n+3; x++ {
						if a, b := phantom.Value(moved, x+d[0], y+d[1]), phantom.Value(p, x, y); !sample.Agree(a, b) {
							t.Fatalf("%v by %v, (%d, %d): %v, not %v", p, d, x, y, a, b)
						}
					}
				}
				for _, x := range []int{math.MinInt + 1024, math.MaxInt - 1024, 2000, -2000} {
					if a, b := phantom.Value(moved, x+d[0], d[1]), phantom.Value(p, x, 0); !sample.Agree(a, b) {
						t.Fatalf("%v by %v, (%d, 0): %v, not %v", p, d, x, a, b)
					}
				}
			}
		}
	}
}

// P8.3: what does not leave the field of view is moved as the grid's cells are.
func TestMovedRaster(t *testing.T) {
	p := sample.Phantom(20, sample.Rect(5, 6, 4, 3, 7-1i), sample.Disc(9, 9, 10, -2i), sample.Wedge(8, 5, 5, 6, 11))
	g, e := phantom.Raster(p)
	right(t, g, e)
	for dx := -5; dx <= 5; dx++ {
		for dy := -5; dy <= 5; dy++ {
			moved, e := phantom.Moved(p, dx, dy)
			there, e2 := phantom.Raster(right(t, moved, e))
			shifted, _ := grid.Shift(g, dx, dy)
			for j, v := range right(t, there, e2).Cells {
				if !sample.Agree(v, shifted.Cells[j]) {
					t.Fatalf("by %d, %d, cell %d: %v, not %v", dx, dy, j, v, shifted.Cells[j])
				}
			}
		}
	}
}

// P8.4: what Text tells Parse reads, with all bits; and Text of that is the same text.
func TestThereAndBack(t *testing.T) {
	for n := 1; n <= 64; n++ {
		for _, p := range append(sample.Phantoms(n), sample.AnyPhantoms(n+64*3, 3)...) {
			p.N = n
			text, e := phantom.Text(p)
			back, e2 := phantom.Parse(right(t, text, e))
			if !sample.SamePhantom(right(t, back, e2), p) {
				t.Fatalf("%v has become %v", p, back)
			}
			again, e := phantom.Text(back)
			if right(t, again, e) != text {
				t.Fatalf("%q has become %q", text, again)
			}
		}
	}
}

// P8.4: what Parse reads, out of whatever text, Text tells byte for byte.
func TestBackAndThere(t *testing.T) {
	d := sample.Dice(84)
	pieces := []string{"phantom ", "phantom 4\n", "phantom 64\n", "rect ", "disc ", "wedge ", "0", "1", "-1", "-0", "12", "0012", " ", " ", " ", " ", "\n", "\n", "rect 1 1 2 2 5 -1\n", "disc 0 0 1 2 0\n", "wedge 1 2 3 4 ", "1 ", "2 ", "-3 ", "4\n", "\r\n", "+7", "65536", "\x00", "\xff"}
	read := 0
	for range 200000 {
		s := ""
		if d.Word()%2 == 0 {
			s = "phantom 9\n"
		}
		for range d.Word() % 12 {
			s += pieces[d.Word()%uint64(len(pieces))]
		}
		reads(t, s)
		if p, e := phantom.Parse(s); e == api.OK {
			read++
			if text, e := phantom.Text(p); right(t, text, e) != s {
				t.Fatalf("%q has become %q", s, text)
			}
		}
	}
	if read < 1000 {
		t.Errorf("only %d texts are ones", read)
	}
}
