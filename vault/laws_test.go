package vault_test

import (
	"bytes"
	"testing"

	"penumbra/api"
	"penumbra/sample"
	"penumbra/vault"
)

// P22.2: over many Adds the slices ahead, and the one that was added, stay with all their bits; what was told ahead stays too, and is followed by the record alone.
func TestNothingIsLost(t *testing.T) {
	d := sample.Dice(271)
	for _, sides := range [][]int{{1}, {2}, {3, 4}, {1, 2, 3, 5, 8}, {13}} {
		for range 2 {
			var file []byte
			list := row(64, sides, &d)
			for i, f := range list {
				longer, e := vault.Add(file, f)
				if e != api.OK || !bytes.HasPrefix(longer, file) {
					t.Fatalf("sides %v: slice %d: error %d, % x behind % x", sides, i, e, sample.Start(longer), sample.Start(file))
				}
				got, e := vault.Slices(longer)
				if e != api.OK || !sameSlices(got, list[:i+1]) {
					t.Fatalf("sides %v: slice %d: %d slices, error %d", sides, i, len(got), e)
				}
				if g, e := vault.Get(longer, i); e != api.OK || !sample.SameField(g, f) {
					t.Fatalf("sides %v: slice %d: %s, error %d", sides, i, sample.About(g), e)
				}
				file = longer
			}
		}
	}
}

// P22.2: likewise of great slices.
func TestNothingGreatIsLost(t *testing.T) {
	d := sample.Dice(272)
	for _, sides := range [][]int{{64}, {63, 64}} {
		list := row(14, sides, &d)
		file := filed(t, list...)
		if got, e := vault.Slices(file); e != api.OK || !sameSlices(got, list) {
			t.Fatalf("sides %v: %d slices, error %d", sides, len(got), e)
		}
		if !bytes.Equal(file, written(list...)) {
			t.Fatalf("sides %v: % x", sides, sample.Start(file))
		}
	}
}

// P22.2: every NaN that differs in one bit from another, told whole and as a change.
func TestNaNsBitByBit(t *testing.T) {
	count := map[byte]int{}
	for _, x := range sample.NaNs() {
		f := sample.Filled(2, complex(x, x))
		for bit := range 64 {
			for part := range 2 {
				list := []api.Grid{f, flipped(f, 3, part, bit), f, f}
				file := filed(t, list...)
				if got, e := vault.Slices(file); e != api.OK || !sameSlices(got, list) {
					t.Fatalf("%x, bit %d: error %d", sample.Bits(f.Cells), bit, e)
				}
				count[file[len(written(f))+8]]++
			}
		}
	}
	if min(count[0], count[1]) < 20 {
		t.Errorf("the samples are too much alike: %v", count)
	}
}

// P22.2: two files with the same slices are the same bytes, whichever way they came about; those with other slices are others.
func TestSameSlicesSameBytes(t *testing.T) {
	d := sample.Dice(274)
	seen := map[string][]api.Grid{}
	for range 400 {
		list := row(int(d.Word()%5), []int{1, 2}, &d)
		file := filed(t, list...)
		// Out of what Slices tells, and out of what a torn file began with.
		got, _ := vault.Slices(file)
		if again := filed(t, got...); !bytes.Equal(again, file) {
			t.Fatalf("% x has become % x", sample.Start(file), sample.Start(again))
		}
		cut := file[:d.Word()%uint64(len(file)+1)]
		many, at := vault.Cut(cut)
		mended := cut[:at]
		for _, f := range list[many:] {
			mended, _ = vault.Add(mended, f)
		}
		if !bytes.Equal(mended, file) {
			t.Fatalf("% x, cut off at %d, has become % x", sample.Start(file), len(cut), sample.Start(mended))
		}
		if other, ok := seen[string(file)]; ok && !sameSlices(other, list) {
			t.Fatalf("% x has two lists of slices", sample.Start(file))
		}
		seen[string(file)] = list
	}
	if len(seen) < 200 {
		t.Errorf("only %d files", len(seen))
	}
}

// checkTorn: of a file cut off there, with these ends of records, Cut tells those that lie ahead of the cut; that beginning is a file, no longer one is, and it may be added to again.
func checkTorn(t *testing.T, list []api.Grid, ends []int, torn []byte, file []byte) {
	t.Helper()
	whole := 0
	for whole < len(list) && ends[whole+1] <= len(torn) {
		whole++
	}
	many, at := vault.Cut(torn)
	if many != whole || at != ends[whole] {
		t.Fatalf("%d of %d bytes: Cut: %d, %d, not %d, %d", len(torn), len(file), many, at, whole, ends[whole])
	}
	if got, e := vault.Slices(torn[:at]); e != api.OK || !sameSlices(got, list[:many]) {
		t.Fatalf("%d of %d bytes: %d slices, error %d", len(torn), len(file), len(got), e)
	}
	if at < len(torn) {
		if _, e := vault.Slices(torn); e != api.ErrVault {
			t.Fatalf("%d of %d bytes: error %d", len(torn), len(file), e)
		}
	}
	if many < len(list) {
		longer, e := vault.Add(torn[:at], list[many])
		if e != api.OK || !bytes.Equal(longer, file[:ends[many+1]]) {
			t.Fatalf("%d of %d bytes: added to again: %d bytes, error %d", len(torn), len(file), len(longer), e)
		}
	}
}

// endsOf: where the records end, from 0 on.
func endsOf(list []api.Grid) []int {
	ends := []int{0}
	for i, f := range list {
		ends = append(ends, ends[i]+len(behind(list[:i], f)))
	}
	return ends
}

// P22.3: files cut off at every place.
func TestTorn(t *testing.T) {
	d := sample.Dice(275)
	for _, many := range []int{0, 1, 2, 3, 7, 64} {
		for _, sides := range [][]int{{1}, {1, 2}, {3}} {
			list := row(many, sides, &d)
			file, ends := filed(t, list...), endsOf(list)
			for k := range len(file) + 1 {
				if many < 8 || k%23 == 0 {
					checkTorn(t, list, ends, bytes.Clone(file[:k]), file)
				}
			}
		}
	}
	list := row(6, []int{63, 64}, &d)
	file, ends := filed(t, list...), endsOf(list)
	for _, end := range ends {
		for _, by := range []int{-20000, -9, -8, -1, 0, 1, 4, 7, 8, 9, 100, 7000} {
			if k := end + by; k >= 0 && k <= len(file) {
				checkTorn(t, list, ends, file[:k], file)
			}
		}
	}
}

// P22.1, P22.3: of any bytes: Cut's beginning is a file, for Slices and for Add, no longer beginning is one, and what Add tells behind it starts with it.
func TestNoLongerBeginning(t *testing.T) {
	d := sample.Dice(276)
	for range 150 {
		list := row(4, []int{1, 2}, &d)
		b := written(list...)
		switch d.Word() % 3 {
		case 0:
			b[d.Word()%uint64(len(b))] ^= 1 << (d.Word() % 8)
		case 1:
			b = resummed(append(b[:len(b)-1], byte(d.Word())))
		case 2:
			b = append(b, spoilt(list, next(list, []int{2}, &d), &d)...)
		}
		many, at := vault.Cut(b)
		got, e := vault.Slices(b[:at])
		if e != api.OK || len(got) != many {
			t.Fatalf("% x: Cut: %d, %d, but %d slices, error %d", sample.Start(b), many, at, len(got), e)
		}
		f := next(got, []int{1, 2}, &d)
		longer, e := vault.Add(b[:at], f)
		if e != api.OK || !bytes.HasPrefix(longer, b[:at]) || len(longer) <= at {
			t.Fatalf("% x: Add behind %d bytes: % x, error %d", sample.Start(b), at, sample.Start(longer), e)
		}
		for k := at + 1; k <= len(b); k++ {
			if got, e := vault.Slices(b[:k]); e != api.ErrVault || len(got) != 0 {
				t.Fatalf("% x: Cut tells %d, but %d bytes are a file too", sample.Start(b), at, k)
			}
			if _, e := vault.Add(b[:k], f); e != api.ErrVault {
				t.Fatalf("% x: Cut tells %d, but %d bytes may be added to", sample.Start(b), at, k)
			}
		}
	}
}
