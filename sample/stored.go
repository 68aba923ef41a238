package sample

import (
	"math"
	"strconv"

	"penumbra/api"
)

// What the layers that store fields are tried with: cells of any bits, so that each way of packing them is the shortest now and then.

// One: the field of one cell.
func One(c complex128) api.Grid { return api.Grid{N: 1, Cells: []complex128{c}} }

// NaNs: with a sign and without, quiet ones and others, with bits that a float32 would keep and with others.
func NaNs() []float64 {
	var out []float64
	for _, bits := range []uint64{0x7ff8000000000000, 0x7ff8000000000001, 0xfff8000000000000, 0x7ff0000000000001, 0xfff0000000000001, 0x7ff0000020000000, 0xfff8000020000000, 0x7ff7ffffffffffff, 0xffffffffffffffff, 0x7ff8000000001234} {
		out = append(out, math.Float64frombits(bits))
	}
	return out
}

// PackBounds: parts at the bounds of the ways, what lies just beyond and just below, either way.
func PackBounds() []float64 {
	out := NaNs()
	for _, x := range []float64{
		0, 1, 3, 63, 64, 65, 300, 8191, 8192, 0.5, 1.5, 0.1,
		1 << 20, 1 << 21, 1 << 24, 1<<24 + 1, 1<<24 + 2, 1 << 27, 1 << 28, 1<<30 - 1,
		1<<31 - 1, 1<<31 - 0.5, 1 << 31, 1<<31 + 0.5, 1<<31 + 1, 1<<31 + 256, 1 << 32, 1<<32 - 3, 1 << 53, 1 << 63, 1 << 64,
		1 + 0x1p-23, 1 + 0x1p-24, math.MaxFloat32, 0x1.ffffffp127, 0x1p128, 0x1p-126, 0x1.fffffcp-127, 0x1.fffffep-127, 0x1p-149, 0x1.8p-149, 0x1p-150,
		0x1p-1074, 0x1p-1022, math.MaxFloat64, math.Inf(1),
	} {
		out = append(out, x, -x, math.Nextafter(x, math.Inf(1)), -math.Nextafter(x, math.Inf(-1)))
	}
	return out
}

// Of: one of the list at a time.
func (d *Dice) Of(list []float64) func() float64 {
	return func() float64 { return list[d.Word()%uint64(len(list))] }
}

// times: whole numbers up to most, times by.
func (d *Dice) times(by float64, most int) func() float64 {
	whole := d.UpTo(most)
	return func() float64 { return whole() * by }
}

// narrow: the part of any complex64, but NaNs.
func (d *Dice) narrow() float64 {
	for {
		if x := math.Float32frombits(uint32(d.Word())); x == x {
			return float64(x)
		}
	}
}

// packParts: how parts are drawn.
func (d *Dice) packParts() []func() float64 {
	top := []float64{0, 1 << 31, -1 << 31, 1<<31 - 1, 1 - 1<<31}
	return []func() float64{
		d.AnyBits, d.Edge, d.Near, d.Sign, d.Tiny, d.Whole, d.narrow, d.Of(PackBounds()), d.Of(NaNs()),
		d.UpTo(9), d.UpTo(1 << 12), d.UpTo(1 << 27), d.UpTo(1 << 31), d.Of(top), d.Of(top[:3]),
		d.times(0.5, 99), d.times(256, 1<<23), d.times(64, 1<<20), d.times(1<<31, 1), d.times(0x1p-149, 1<<20),
	}
}

// Fields: of side n, of each kind, and such in which cells are near to those ahead of them.
func (d *Dice) Fields(n int) []api.Grid {
	var out []api.Grid
	for _, part := range d.packParts() {
		out = append(out, api.Grid{N: n, Cells: d.List(n*n, part)})
	}
	for _, v := range []complex128{0, 1 << 31, complex(-1<<31, 1<<31), complex(math.Inf(-1), 2), complex(MinusNought(), 0), complex(0, NaNs()[3]), 0.1, complex(1<<24+1, -1)} {
		out = append(out, Filled(n, v))
	}
	return append(out, Numbered(n), climb(n, 0), climb(n, 1<<31-1<<24), climb(n, 1<<30+1))
}

// climb: each cell a little above the one ahead of it, in either part.
func climb(n int, from float64) api.Grid {
	f := Filled(n, 0)
	for k := range f.Cells {
		f.Cells[k] = complex(from+float64(k*37), -from-float64(k*70))
	}
	return f
}

// About: as much of a field as can be read in a message.
func About(f api.Grid) string {
	text := "side " + strconv.Itoa(f.N) + ", " + strconv.Itoa(len(f.Cells)) + " cells"
	for _, c := range f.Cells[:min(len(f.Cells), 4)] {
		text += " " + strconv.FormatComplex(c, 'g', -1, 128)
	}
	return text + " .."
}

// Start: as much of a list of bytes as can be read in a message.
func Start(b []byte) []byte { return b[:min(len(b), 40)] }
