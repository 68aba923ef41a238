package pack_test

import (
	"bytes"
	"fmt"
	"math"
	"testing"

	"penumbra/api"
	"penumbra/pack"
	"penumbra/sample"
)

// one: the field of one cell.
func one(c complex128) api.Grid { return api.Grid{N: 1, Cells: []complex128{c}} }

// field: of the side whose square there are cells.
func field(cells ...complex128) api.Grid {
	return api.Grid{N: int(math.Sqrt(float64(len(cells)))), Cells: cells}
}

// nans: with a sign and without, quiet ones and others, with bits that a float32 would keep and with others.
func nans() []float64 {
	var out []float64
	for _, bits := range []uint64{0x7ff8000000000000, 0x7ff8000000000001, 0xfff8000000000000, 0x7ff0000000000001, 0xfff0000000000001, 0x7ff0000020000000, 0xfff8000020000000, 0x7ff7ffffffffffff, 0xffffffffffffffff, 0x7ff8000000001234} {
		out = append(out, math.Float64frombits(bits))
	}
	return out
}

// bitAlone: the part with this bit alone.
func bitAlone(bit int) float64 { return math.Float64frombits(1 << bit) }

// edges: parts at the bounds of the ways, what lies just beyond and just below, either way.
func edges() []float64 {
	out := nans()
	for _, x := range []float64{
		0, 1, 3, 63, 64, 65, 300, 8191, 8192, 0.5, 1.5, 0.1,
		1 << 20, 1 << 21, 1 << 24, 1<<24 + 1, 1<<24 + 2, 1 << 27, 1 << 28, 1<<30 - 1,
		1<<31 - 1, 1<<31 - 0.5, 1 << 31, 1<<31 + 0.5, 1<<31 + 1, 1<<31 + 256, 1 << 32, 1<<32 - 3, 1 << 53, 1 << 63, 1 << 64,
		1 + 0x1p-23, 1 + 0x1p-24, math.MaxFloat32, 0x1.ffffffp127, 0x1p128, 0x1p-126, 0x1.fffffcp-127, 0x1.fffffep-127, 0x1p-149, 0x1.8p-149, 0x1p-150,
		0x1p-1074, 0x1p-1022, math.MaxFloat64, math.Inf(1),
	} {
		out = append(out, x, -x, math.Nextafter(x, math.Inf(1)), -math.Nextafter(x, math.Inf(-1)))
	}
	return out
}

// picked: one of the list at a time.
func picked(list []float64, d *sample.Dice) func() float64 {
	return func() float64 { return list[d.Word()%uint64(len(list))] }
}

// times: whole numbers up to most, times by.
func times(by float64, most int, d *sample.Dice) func() float64 {
	whole := d.UpTo(most)
	return func() float64 { return whole() * by }
}

// narrows: the parts of any complex64, but NaNs.
func narrows(d *sample.Dice) func() float64 {
	return func() float64 {
		for {
			if x := math.Float32frombits(uint32(d.Word())); x == x {
				return float64(x)
			}
		}
	}
}

// kinds: how parts are drawn, so that each way is the shortest now and then.
func kinds(d *sample.Dice) []func() float64 {
	top := []float64{0, 1 << 31, -1 << 31, 1<<31 - 1, 1 - 1<<31}
	return []func() float64{
		d.AnyBits, d.Edge, d.Near, d.Sign, d.Tiny, d.Whole, narrows(d), picked(edges(), d), picked(nans(), d),
		d.UpTo(9), d.UpTo(1 << 12), d.UpTo(1 << 27), d.UpTo(1 << 31), picked(top, d), picked(top[:3], d),
		times(0.5, 99, d), times(256, 1<<23, d), times(64, 1<<20, d), times(1<<31, 1, d), times(0x1p-149, 1<<20, d),
	}
}

// fields: of side n, of each kind, and such in which cells are near to those ahead of them.
func fields(n int, d *sample.Dice) []api.Grid {
	var out []api.Grid
	for _, part := range kinds(d) {
		out = append(out, api.Grid{N: n, Cells: d.List(n*n, part)})
	}
	for _, v := range []complex128{0, 1 << 31, complex(-1<<31, 1<<31), complex(math.Inf(-1), 2), complex(sample.MinusNought(), 0), complex(0, nans()[3]), 0.1, complex(1<<24+1, -1)} {
		out = append(out, sample.Filled(n, v))
	}
	return append(out, sample.Numbered(n), climb(n, 0), climb(n, 1<<31-1<<24), climb(n, 1<<30+1))
}

// climb: each cell a little above the one ahead of it, in either part.
func climb(n int, from float64) api.Grid {
	f := sample.Filled(n, 0)
	for k := range f.Cells {
		f.Cells[k] = complex(from+float64(k*37), -from-float64(k*70))
	}
	return f
}

// about: as much of a field as can be read in a message.
func about(f api.Grid) string {
	return fmt.Sprintf("side %d, %d cells %v ..", f.N, len(f.Cells), f.Cells[:min(len(f.Cells), 4)])
}

// checkField: Pack and Way tell what the chapter's words do, and Unpack leads back, with all bits.
func checkField(t *testing.T, f api.Grid) {
	t.Helper()
	way, want := packed(f)
	b, e := pack.Pack(f)
	if e != api.OK || !bytes.Equal(b, want) {
		t.Fatalf("%s: Pack: % x, error %d, not % x", about(f), start(b), e, start(want))
	}
	if w, e := pack.Way(f); e != api.OK || w != way {
		t.Fatalf("%s: Way: %d, error %d, not %d", about(f), w, e, way)
	}
	if g, e := pack.Unpack(want); e != api.OK || !sample.SameField(f, g) {
		t.Fatalf("%s: Unpack: %s, error %d", about(f), about(g), e)
	}
}

// checkBytes: Unpack takes them just if they are packed bytes by the chapter's words, and Pack tells them again; tells whether.
func checkBytes(t *testing.T, b []byte) bool {
	t.Helper()
	want, ok := parsed(b)
	f, e := pack.Unpack(b)
	if !ok {
		if e != api.ErrPack || f.N != 0 || len(f.Cells) != 0 {
			t.Fatalf("Unpack(% x): %s, error %d", start(b), about(f), e)
		}
		return false
	}
	if e != api.OK || !sample.SameField(f, want) {
		t.Fatalf("Unpack(% x): %s, error %d, not %s", start(b), about(f), e, about(want))
	}
	if again, e := pack.Pack(f); e != api.OK || !bytes.Equal(again, b) {
		t.Fatalf("Unpack(% x) is packed as % x, error %d", start(b), start(again), e)
	}
	return true
}

// refused: bytes that are no packed ones, by the rules and by Unpack.
func refused(t *testing.T, b []byte) {
	t.Helper()
	if checkBytes(t, b) {
		t.Fatalf("% x is taken", start(b))
	}
}

// taken: bytes that are packed ones.
func taken(t *testing.T, b []byte) {
	t.Helper()
	if !checkBytes(t, b) {
		t.Fatalf("% x is refused", start(b))
	}
}

// start: as much as can be read in a message.
func start(b []byte) []byte { return b[:min(len(b), 40)] }
