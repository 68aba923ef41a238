package pack_test

import (
	"bytes"
	"math"
	"testing"

	"penumbra/api"
	"penumbra/pack"
	"penumbra/sample"
)

// field: of the side whose square there are cells.
func field(cells ...complex128) api.Grid {
	return api.Grid{N: int(math.Sqrt(float64(len(cells)))), Cells: cells}
}

// bitAlone: the part with this bit alone.
func bitAlone(bit int) float64 { return math.Float64frombits(1 << bit) }

// checkField: Pack and Way tell what the chapter's words do, and Unpack leads back, with all bits.
func checkField(t *testing.T, f api.Grid) {
	t.Helper()
	way, want := packed(f)
	b, e := pack.Pack(f)
	if e != api.OK || !bytes.Equal(b, want) {
		t.Fatalf("%s: Pack: % x, error %d, not % x", sample.About(f), sample.Start(b), e, sample.Start(want))
	}
	if w, e := pack.Way(f); e != api.OK || w != way {
		t.Fatalf("%s: Way: %d, error %d, not %d", sample.About(f), w, e, way)
	}
	if g, e := pack.Unpack(want); e != api.OK || !sample.SameField(f, g) {
		t.Fatalf("%s: Unpack: %s, error %d", sample.About(f), sample.About(g), e)
	}
}

// checkBytes: Unpack takes them just if they are packed bytes by the chapter's words, and Pack tells them again; tells whether.
func checkBytes(t *testing.T, b []byte) bool {
	t.Helper()
	want, ok := parsed(b)
	f, e := pack.Unpack(b)
	if !ok {
		if e != api.ErrPack || f.N != 0 || len(f.Cells) != 0 {
			t.Fatalf("Unpack(% x): %s, error %d", sample.Start(b), sample.About(f), e)
		}
		return false
	}
	if e != api.OK || !sample.SameField(f, want) {
		t.Fatalf("Unpack(% x): %s, error %d, not %s", sample.Start(b), sample.About(f), e, sample.About(want))
	}
	if again, e := pack.Pack(f); e != api.OK || !bytes.Equal(again, b) {
		t.Fatalf("Unpack(% x) is packed as % x, error %d", sample.Start(b), sample.Start(again), e)
	}
	return true
}

// refused: bytes that are no packed ones, by the rules and by Unpack.
func refused(t *testing.T, b []byte) {
	t.Helper()
	if checkBytes(t, b) {
		t.Fatalf("% x is taken", sample.Start(b))
	}
}

// taken: bytes that are packed ones.
func taken(t *testing.T, b []byte) {
	t.Helper()
	if !checkBytes(t, b) {
		t.Fatalf("% x is refused", sample.Start(b))
	}
}
