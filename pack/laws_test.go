package pack_test

import (
	"bytes"
	"slices"
	"testing"

	"penumbra/api"
	"penumbra/pack"
	"penumbra/sample"
)

// P21.2: Unpack of what Pack tells is the field with all its bits, those of NaNs too, at every side.
func TestThereAndBack(t *testing.T) {
	d := sample.Dice(241)
	for n := 1; n <= 64; n++ {
		for _, f := range d.Fields(n) {
			b, e := pack.Pack(f)
			if e != api.OK {
				t.Fatalf("%s: error %d", sample.About(f), e)
			}
			if g, e := pack.Unpack(b); e != api.OK || !sample.SameField(f, g) {
				t.Fatalf("%s: back %s, error %d", sample.About(f), sample.About(g), e)
			}
			if way, e := pack.Way(f); e != api.OK || way != int(b[0]) {
				t.Fatalf("%s: way %d, error %d, though the first byte is %d", sample.About(f), way, e, b[0])
			}
		}
	}
}

// P21.2: likewise of every NaN that differs in one bit from another, in either part.
func TestNaNsBitByBit(t *testing.T) {
	for bit := range 64 {
		for _, x := range sample.NaNs() {
			f := sample.One(complex(x, x))
			g, _ := pack.Change(f, sample.One(complex(bitAlone(bit), 0)))
			h, _ := pack.Change(f, sample.One(complex(0, bitAlone(bit))))
			checkField(t, g)
			checkField(t, h)
			if sample.SameField(f, g) || sample.SameField(f, h) || sample.SameField(g, h) {
				t.Fatalf("bit %d of %x does not show", bit, sample.Bits(f.Cells))
			}
		}
	}
}

// P21.2: no packed bytes are the beginning of others, and two fields have never the same ones.
func TestNoBeginnings(t *testing.T) {
	d := sample.Dice(242)
	seen := map[string]api.Grid{}
	var all [][]byte
	for n := 1; n <= 64; n += 1 + n/9 {
		for range 4 {
			for _, f := range d.Fields(n) {
				b, _ := pack.Pack(f)
				if g, ok := seen[string(b)]; ok {
					if !sample.SameField(f, g) {
						t.Fatalf("%s and %s are packed alike", sample.About(f), sample.About(g))
					}
					continue
				}
				seen[string(b)] = f
				all = append(all, b)
			}
		}
	}
	for _, x := range sample.PackBounds() {
		for _, y := range sample.PackBounds() {
			b, _ := pack.Pack(sample.One(complex(x, y)))
			if _, ok := seen[string(b)]; !ok {
				seen[string(b)] = sample.One(complex(x, y))
				all = append(all, b)
			}
		}
	}
	// What begins with others stands, sorted, right behind one of them.
	slices.SortFunc(all, bytes.Compare)
	for i := 1; i < len(all); i++ {
		if bytes.HasPrefix(all[i], all[i-1]) {
			t.Fatalf("% x is the beginning of % x", sample.Start(all[i-1]), sample.Start(all[i]))
		}
	}
	if len(all) < 10000 {
		t.Errorf("only %d fields", len(all))
	}
}

// P21.3: Change of Change(f, g) and g is f, bit by bit; Change(f, f) has all bits 0; and it is the same whichever comes first.
func TestChangeAndBack(t *testing.T) {
	d := sample.Dice(243)
	for n := 1; n <= 64; n++ {
		list := d.Fields(n)
		for i, f := range list {
			g := list[(i*11+n)%len(list)]
			c, e := pack.Change(f, g)
			if e != api.OK {
				t.Fatalf("%s, %s: error %d", sample.About(f), sample.About(g), e)
			}
			if back, e := pack.Change(c, g); e != api.OK || !sample.SameField(back, f) {
				t.Fatalf("%s by %s and back: %s, error %d", sample.About(f), sample.About(g), sample.About(back), e)
			}
			if other, e := pack.Change(g, f); e != api.OK || !sample.SameField(other, c) {
				t.Fatalf("%s, %s: the other way round %s, error %d", sample.About(f), sample.About(g), sample.About(other), e)
			}
			if none, e := pack.Change(f, f); e != api.OK || !sample.SameField(none, sample.Filled(n, 0)) {
				t.Fatalf("%s by itself: %s, error %d", sample.About(f), sample.About(none), e)
			}
			checkField(t, c)
		}
	}
}
