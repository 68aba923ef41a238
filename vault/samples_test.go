package vault_test

import (
	"bytes"
	"math"
	"slices"
	"testing"

	"penumbra/api"
	"penumbra/sample"
	"penumbra/vault"
)

// flipped: the field, but for one bit of the first part of a cell, or of the second one.
func flipped(f api.Grid, at, part, bit int) api.Grid {
	bits := sample.Bits(f.Cells[at : at+1])
	bits[part] ^= 1 << bit
	return sample.With(f, at, complex(math.Float64frombits(bits[0]), math.Float64frombits(bits[1])))
}

// turned: the field, but for one bit anywhere.
func turned(f api.Grid, d *sample.Dice) api.Grid {
	return flipped(f, int(d.Word()%uint64(len(f.Cells))), int(d.Word()%2), int(d.Word()%64))
}

// drawn: one of the fields of side n, of any kind.
func drawn(n int, d *sample.Dice) api.Grid {
	all := d.Fields(n)
	return all[d.Word()%uint64(len(all))]
}

// anyBits: a field of side n whose cells have any bits, so that it is packed in way 0.
func anyBits(n int, d *sample.Dice) api.Grid {
	return api.Grid{N: n, Cells: d.List(n*n, d.AnyBits)}
}

// next: a slice behind these: like the last one, nearly like it, wholly unlike, or of another side.
func next(ahead []api.Grid, sides []int, d *sample.Dice) api.Grid {
	n := sides[d.Word()%uint64(len(sides))]
	if len(ahead) == 0 {
		return drawn(n, d)
	}
	last := ahead[len(ahead)-1]
	switch d.Word() % 6 {
	case 0:
		return last
	case 1, 2:
		return turned(last, d)
	case 3:
		return sample.With(last, int(d.Word()%uint64(len(last.Cells))), drawn(1, d).Cells[0])
	case 4:
		return drawn(last.N, d)
	}
	return drawn(n, d)
}

// row: so many slices one behind the other.
func row(many int, sides []int, d *sample.Dice) []api.Grid {
	var out []api.Grid
	for range many {
		out = append(out, next(out, sides, d))
	}
	return out
}

// filed: the slices' file, out of Adds alone.
func filed(t *testing.T, list ...api.Grid) []byte {
	t.Helper()
	var file []byte
	for i, f := range list {
		longer, e := vault.Add(file, f)
		if e != api.OK {
			t.Fatalf("slice %d, %s: error %d", i, sample.About(f), e)
		}
		file = longer
	}
	return file
}

// sized: a field of side n that is packed in so many bytes, from 2*n*n + 2 to 8*n*n + 1: parts that go up and down, by steps of one to five groups.
func sized(n, size int) api.Grid {
	f := sample.Filled(n, 0)
	more := size - 2 - 2*n*n
	var parts [2]float64
	for k := range f.Cells {
		for p := range parts {
			by := min(more, 4)
			more -= by
			if step := math.Ldexp(1, 7*by-1); by > 0 && parts[p] > 0 {
				parts[p] -= step + 1
			} else if by > 0 {
				parts[p] += step
			}
		}
		f.Cells[k] = complex(parts[0], parts[1])
	}
	return f
}

// sameSlices: as many, each bit by bit.
func sameSlices(a, b []api.Grid) bool { return slices.EqualFunc(a, b, sample.SameField) }

// places: of slices: the first and the last, those next to them, and the ends of int.
func places(many int) []int {
	return append(sample.Ends(), -64, -2, -1, 0, 1, many/2, many-2, many-1, many, many+1, 63, 64, 65)
}

// checkGet: that Get tells the slice of that number, or that there is none.
func checkGet(t *testing.T, b []byte, i int, list []api.Grid, want api.Errno) {
	t.Helper()
	if want == api.OK && (i < 0 || i >= len(list)) {
		want = api.ErrArg
	}
	got, e := vault.Get(b, i)
	if e != want || e != api.OK && (got.N != 0 || len(got.Cells) != 0) {
		t.Fatalf("% x: Get of %d: %s, error %d, not %d", sample.Start(b), i, sample.About(got), e, want)
	}
	if e == api.OK && !sample.SameField(got, list[i]) {
		t.Fatalf("% x: Get of %d: %s, not %s", sample.Start(b), i, sample.About(got), sample.About(list[i]))
	}
}

// checkAdd: that Add tells what the chapter's words do; tells whether it did.
func checkAdd(t *testing.T, b []byte, f api.Grid) ([]byte, bool) {
	t.Helper()
	want, err := added(b, f)
	got, e := vault.Add(b, f)
	if e != err || !bytes.Equal(got, want) {
		t.Fatalf("%d bytes % x: Add of %s: %d bytes % x, error %d, not %d bytes % x, error %d", len(b), sample.Start(b), sample.About(f), len(got), sample.Start(got), e, len(want), sample.Start(want), err)
	}
	return got, e == api.OK
}

// check: that every call tells of these bytes what the chapter's words do; tells whether they are a file.
func check(t *testing.T, b []byte) bool {
	t.Helper()
	list, size := ruled(b)
	if many, at := vault.Cut(b); many != len(list) || at != size {
		t.Fatalf("%d bytes % x: Cut: %d slices, %d bytes, not %d, %d", len(b), sample.Start(b), many, at, len(list), size)
	}
	want := api.OK
	if size != len(b) {
		list, want = nil, api.ErrVault
	}
	if got, e := vault.Slices(b); e != want || !sameSlices(got, list) {
		t.Fatalf("%d bytes % x: Slices: %d, error %d, not %d, error %d", len(b), sample.Start(b), len(got), e, len(list), want)
	}
	for _, i := range []int{-1, 0, len(list) - 1, len(list)} {
		checkGet(t, b, i, list, want)
	}
	checkAdd(t, b, sample.One(3-1i))
	return want == api.OK
}

// refused: bytes that are no file.
func refused(t *testing.T, b []byte) {
	t.Helper()
	if check(t, b) {
		t.Fatalf("%d bytes % x are taken", len(b), sample.Start(b))
	}
}

// taken: bytes that are one.
func taken(t *testing.T, b []byte) {
	t.Helper()
	if !check(t, b) {
		t.Fatalf("%d bytes % x are refused", len(b), sample.Start(b))
	}
}
