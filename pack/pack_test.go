package pack_test

import (
	"bytes"
	"math"
	"testing"

	"penumbra/api"
	"penumbra/pack"
	"penumbra/sample"
)

// P21.1: the chapter's examples, and others that are written out.
func TestExamples(t *testing.T) {
	minus := sample.MinusNought()
	for _, c := range []struct {
		f    api.Grid
		want []byte
	}{
		{sample.One(3 - 1i), []byte{2, 1, 6, 1}},
		{sample.One(0.5), []byte{1, 1, 0x3f, 0, 0, 0, 0, 0, 0, 0}},
		{sample.One(0.1), []byte{0, 1, 0x3f, 0xb9, 0x99, 0x99, 0x99, 0x99, 0x99, 0x9a, 0, 0, 0, 0, 0, 0, 0, 0}},
		{field(300, 301, 301, 300), []byte{2, 2, 0xd8, 4, 0, 2, 0, 0, 0, 1, 0}},
		{sample.One(0), []byte{2, 1, 0, 0}},
		{sample.One(-1i), []byte{2, 1, 0, 1}},
		{sample.One(63 - 64i), []byte{2, 1, 126, 127}},
		{sample.One(64 - 65i), []byte{2, 1, 0x80, 1, 0x81, 1}},
		{field(1-2i, 3i, 3i, -5+3i), []byte{2, 2, 2, 3, 1, 10, 0, 0, 9, 0}},
		{sample.One(complex(minus, -2.5)), []byte{1, 1, 0x80, 0, 0, 0, 0xc0, 0x20, 0, 0}},
		{sample.One(complex(math.Inf(1), math.Inf(-1))), []byte{1, 1, 0x7f, 0x80, 0, 0, 0xff, 0x80, 0, 0}},
		{sample.One(complex(math.Float64frombits(0xfff123456789abcd), minus)), []byte{0, 1, 0xff, 0xf1, 0x23, 0x45, 0x67, 0x89, 0xab, 0xcd, 0x80, 0, 0, 0, 0, 0, 0, 0}},
		// 2^31 is 2^32 folded, and -2^31 is 2^32 - 1: ten bytes, two more than a complex64 has; one of them that no float32 keeps, and there is no such way.
		{sample.One(complex(1<<31, -1<<31)), []byte{1, 1, 0x4f, 0, 0, 0, 0xcf, 0, 0, 0}},
		{sample.One(complex(1<<31, 1-1<<31)), []byte{2, 1, 0x80, 0x80, 0x80, 0x80, 0x10, 0xfd, 0xff, 0xff, 0xff, 0x0f}},
	} {
		if b, e := pack.Pack(c.f); e != api.OK || !bytes.Equal(b, c.want) {
			t.Errorf("%s: Pack: % x, error %d, not % x", sample.About(c.f), b, e, c.want)
		}
		if w, e := pack.Way(c.f); e != api.OK || w != int(c.want[0]) {
			t.Errorf("%s: Way: %d, error %d", sample.About(c.f), w, e)
		}
		if f, e := pack.Unpack(c.want); e != api.OK || !sample.SameField(f, c.f) {
			t.Errorf("Unpack(% x): %s, error %d", c.want, sample.About(f), e)
		}
		checkField(t, c.f)
		taken(t, c.want)
	}
	for _, b := range [][]byte{nil, {}, {2, 1, 0x86, 0, 1}, {2, 1, 6, 1, 0}, {2, 1, 6}, {2, 1}, {2}} {
		refused(t, b)
	}
}

// checkFields: each as said, and each way is that of at least so many.
func checkFields(t *testing.T, list []api.Grid, least int) {
	t.Helper()
	count := [3]int{}
	for _, f := range list {
		checkField(t, f)
		way, _ := packed(f)
		count[way]++
	}
	if min(count[0], count[1], count[2]) < least {
		t.Errorf("the samples are too much alike: %v", count)
	}
}

// P21.1: at every pair of parts at the bounds of the ways.
func TestEveryPart(t *testing.T) {
	var list []api.Grid
	for _, x := range sample.PackBounds() {
		for _, y := range sample.PackBounds() {
			list = append(list, sample.One(complex(x, y)))
		}
	}
	checkFields(t, list, 1000)
}

// P21.1: at every side, at cells of any kind: the chapter's three ways written out, cell by cell.
func TestFields(t *testing.T) {
	d := sample.Dice(231)
	var list []api.Grid
	for n := 1; n <= 64; n++ {
		list = append(list, d.Fields(n)...)
	}
	checkFields(t, list, 400)
}

// P21.1: one cell alone, the first, one in the middle or the last, by either part, bars a way for all.
func TestOneCellBars(t *testing.T) {
	bars := []struct {
		like complex128 // what all cells are
		part float64    // the part that is put in
		from int        // the way ahead of it and the one behind
		to   int
	}{
		{5, 0.5, 2, 1}, {5, 0.1, 2, 0}, {5, sample.MinusNought(), 2, 1}, {5, 1<<31 + 256, 2, 1}, {5, 1<<31 + 1, 2, 0}, {5, 1<<31 + 0.5, 2, 0}, {5, math.Inf(-1), 2, 1}, {5, sample.NaNs()[0], 2, 0}, {5, -1<<31 - 256, 2, 1}, {5, -1<<31 - 1, 2, 0},
		{0.5, 0.1, 1, 0}, {0.5, sample.NaNs()[5], 1, 0}, {0.5, 1<<24 + 1, 1, 0}, {0.5, 0x1p-150, 1, 0}, {0.5, 0x1p128, 1, 0}, {0.5, 0x1.ffffffp127, 1, 0}, {0.5, math.MaxFloat64, 1, 0}, {0.5, 1 + 0x1p-24, 1, 0},
		{5, 1 << 31, 2, 2}, {5, -1 << 31, 2, 2}, {5, 1<<31 - 1, 2, 2}, {0.5, math.MaxFloat32, 1, 1}, {0.5, -0x1p-149, 1, 1}, {0.5, math.Inf(1), 1, 1}, {0.1, 3, 0, 0}, {0.1, sample.NaNs()[1], 0, 0},
	}
	for _, n := range []int{2, 3, 8, 21, 64} {
		for _, c := range bars {
			f := sample.Filled(n, c.like)
			checkField(t, f)
			for _, place := range []int{0, 1, n - 1, n*n/2 + 1, n*n - 1} {
				for _, v := range []complex128{complex(c.part, imag(c.like)), complex(real(c.like), c.part), complex(c.part, c.part)} {
					g := sample.With(f, place, v)
					checkField(t, g)
					was, _ := pack.Way(f)
					if is, _ := pack.Way(g); was != c.from || is != c.to {
						t.Fatalf("side %d, %v among %v: the way is %d, and was %d", n, v, c.like, is, was)
					}
				}
			}
		}
	}
}

// P21.1: differences from -2^31 to 2^31 and back want five bytes each, a cell ten.
func TestGreatestDifferences(t *testing.T) {
	for n := 2; n <= 64; n++ {
		for _, v := range []complex128{complex(1<<31, 1<<31), complex(1<<31, -1<<31), complex(-1<<31, 1<<31)} {
			// A last cell that no complex64 keeps, so that the way stays.
			f := sample.With(sample.Filled(n, v), n*n-1, 1<<24+1)
			for k := 1; k < n*n-1; k += 2 {
				f.Cells[k] = -v
			}
			checkField(t, f)
			way, _ := pack.Way(f)
			b, _ := pack.Pack(f)
			if way != 2 || len(b) < 2+10*(n*n-1) {
				t.Fatalf("side %d: way %d, %d bytes", n, way, len(b))
			}
			f.Cells[n*n-1] = 0
			checkField(t, f)
			if way, _ := pack.Way(f); way != 1 {
				t.Fatalf("side %d: way %d, though a complex64 has eight bytes", n, way)
			}
		}
	}
}

// P21.1: the bounds of each number of groups: the last number that has them, and the first that has one more.
func TestGroups(t *testing.T) {
	for groups := 1; groups <= 4; groups++ {
		edge := 1 << (7*groups - 1) // folded it is 2^(7*groups), the first that has one more
		for _, c := range []struct{ d, want int }{{edge - 1, groups}, {-edge, groups}, {edge, groups + 1}, {-edge - 1, groups + 1}} {
			// The cell ahead can be told by its steps alone.
			for _, ahead := range []int{1<<24 + 1, -1<<24 - 1, 1<<28 + 3} {
				f := field(complex(float64(ahead), 0), complex(float64(ahead+c.d), 0), complex(float64(ahead+c.d), 0), complex(float64(ahead+c.d), 0))
				checkField(t, f)
				first, _ := pack.Pack(sample.One(complex(float64(ahead), 0)))
				b, _ := pack.Pack(f)
				if len(b) != len(first)+c.want+5 {
					t.Fatalf("from %d by %d: %d bytes, not %d groups", ahead, c.d, len(b), c.want)
				}
			}
		}
	}
}

// P21.1: where two ways need equally many bytes, the least is taken; with one byte less or more it is the shorter one.
func TestEquallyMany(t *testing.T) {
	// These parts want 4, 3 and 5 bytes as differences to 0, and a float32 keeps them.
	const four, three, five = 1 << 21, 1 << 14, 1 << 30
	for _, c := range []struct {
		cell complex128
		want int
	}{
		{complex(four, four), 1}, {complex(four, -four), 1}, {complex(four, three), 2}, {complex(three, four), 2}, {complex(five, four), 1}, {complex(-five, three), 1}, {complex(three, five), 1}, {complex(five, 1<<7), 2}, {complex(five, 1), 2}, {complex(1<<27-8, -1<<27), 1}, {complex(1<<20-1, -1<<27), 2},
	} {
		checkField(t, sample.One(c.cell))
		if way, e := pack.Way(sample.One(c.cell)); e != api.OK || way != c.want {
			t.Errorf("%v: way %d, error %d, not %d", c.cell, way, e, c.want)
		}
		// Cells by turns with 0 have the same differences all along.
		for _, n := range []int{3, 4, 17, 64} {
			f := sample.Filled(n, 0)
			for k := 0; k < n*n; k += 2 {
				f.Cells[k] = c.cell
			}
			checkField(t, f)
		}
	}
	equal := 0
	for n := 2; n <= 64; n++ {
		// One part wants four bytes in each of all cells, but for that of the last.
		f := sample.Filled(n, 0)
		for k := 0; k < n*n; k += 2 {
			f.Cells[k] = complex(four, four)
		}
		for _, last := range []complex128{complex(four, four), complex(-four, four), 0, complex(four/2, four/2), complex(2*four, four), complex(four, 1), complex(five, four), complex(five, five), complex(five, 64)} {
			g := sample.With(f, n*n-1, last)
			checkField(t, g)
			b1, _ := written(g, 1)
			b2, _ := written(g, 2)
			if len(b1) == len(b2) {
				equal++
				if way, _ := pack.Way(g); way != 1 {
					t.Fatalf("side %d: of ways 1 and 2, which need equally many bytes, %d is taken", n, way)
				}
			}
		}
	}
	if equal < 100 {
		t.Errorf("only in %d of them two ways need equally many bytes", equal)
	}
}

// unlike: two fields' bits, by the chapter's words.
func unlike(f, g api.Grid) api.Grid {
	out := api.Grid{N: f.N}
	a, b := sample.Bits(f.Cells), sample.Bits(g.Cells)
	for i := 0; i < len(a); i += 2 {
		out.Cells = append(out.Cells, complex(math.Float64frombits(a[i]^b[i]), math.Float64frombits(a[i+1]^b[i+1])))
	}
	return out
}

// checkChange: that Change tells the bits in which they are unlike.
func checkChange(t *testing.T, f, g api.Grid) {
	t.Helper()
	if got, e := pack.Change(f, g); e != api.OK || !sample.SameField(got, unlike(f, g)) {
		t.Fatalf("Change(%s, %s): %s, error %d", sample.About(f), sample.About(g), sample.About(got), e)
	}
}

// P21.1: Change, written out and at any bits.
func TestChange(t *testing.T) {
	of := math.Float64frombits
	for _, c := range []struct{ f, g, want complex128 }{
		{5, 7, complex(of(0x0008000000000000), 0)},
		{1, 1 + 2i, complex(0, 2)},
		{0, complex(sample.MinusNought(), 0), complex(sample.MinusNought(), 0)},
		{complex(of(0x7ff0000000000001), of(0xffffffffffffffff)), complex(of(0x7ff0000000000002), of(0x7fffffffffffffff)), complex(of(3), of(1<<63))},
		{complex(of(0x1234), of(0x7ff8000000000000)), complex(of(0x7ff8000000000000), of(0x4321)), complex(of(0x7ff8000000001234), of(0x7ff8000000004321))},
	} {
		if got, e := pack.Change(sample.One(c.f), sample.One(c.g)); e != api.OK || !sample.SameField(got, sample.One(c.want)) {
			t.Errorf("Change(%v, %v): %s, error %d, not %v", c.f, c.g, sample.About(got), e, c.want)
		}
	}
	d := sample.Dice(232)
	for n := 1; n <= 64; n++ {
		list := d.Fields(n)
		for i, f := range list {
			checkChange(t, f, list[(i*7+n)%len(list)])
		}
	}
}
