package pack_test

import (
	"encoding/binary"
	"math"
	"slices"
	"testing"

	"penumbra/api"
	"penumbra/pack"
	"penumbra/sample"
)

// noChange: that these are refused, and nothing stands beside the error.
func noChange(t *testing.T, f, g api.Grid) {
	t.Helper()
	if got, e := pack.Change(f, g); e != api.ErrArg || got.N != 0 || len(got.Cells) != 0 {
		t.Fatalf("Change(%s, %s): %s, error %d", sample.About(f), sample.About(g), sample.About(got), e)
	}
}

// P21.1: what is no field is refused by all calls, ahead of a field, behind one and beside its like.
func TestNoFields(t *testing.T) {
	for i, f := range sample.NoFields() {
		if b, e := pack.Pack(f); e != api.ErrArg || len(b) != 0 {
			t.Fatalf("Pack(%s): % x, error %d", sample.About(f), sample.Start(b), e)
		}
		if w, e := pack.Way(f); e != api.ErrArg || w != 0 {
			t.Fatalf("Way(%s): %d, error %d", sample.About(f), w, e)
		}
		for _, g := range []api.Grid{sample.One(0), sample.One(complex(math.NaN(), 0.1)), sample.Numbered(2), sample.Numbered(64), {N: f.N}, sample.NoFields()[(i*5+1)%len(sample.NoFields())]} {
			noChange(t, f, g)
			noChange(t, g, f)
		}
		noChange(t, f, f)
	}
}

// P21.1: N alone, or the cells alone, that are none.
func TestNoSidesNoCells(t *testing.T) {
	for _, n := range append(sample.NoSides(), -64, 66) {
		for _, many := range []int{0, 1, 4, 64 * 64, 65 * 65} {
			f := api.Grid{N: n, Cells: make([]complex128, many)}
			if b, e := pack.Pack(f); e != api.ErrArg || len(b) != 0 {
				t.Fatalf("Pack(%s): % x, error %d", sample.About(f), sample.Start(b), e)
			}
			noChange(t, f, f)
		}
	}
	for n := 1; n <= 64; n++ {
		for _, many := range []int{0, n*n - 1, n*n + 1, (n + 1) * (n + 1), 2 * n * n} {
			f := api.Grid{N: n, Cells: make([]complex128, many, many+7)}
			if w, e := pack.Way(f); e != api.ErrArg || w != 0 {
				t.Fatalf("Way(%s): %d, error %d", sample.About(f), w, e)
			}
			noChange(t, f, sample.Filled(n, 0))
			noChange(t, sample.Filled(n, 0), f)
		}
	}
}

// P21.1: fields of unlike sides.
func TestUnlikeSides(t *testing.T) {
	for n := 1; n <= 64; n++ {
		for m := 1; m <= 64; m++ {
			if n != m {
				noChange(t, sample.Filled(n, 3), sample.Filled(m, 3))
			}
		}
	}
}

// some: packed bytes of every way, few enough to be gone through byte by byte.
func some() [][]byte {
	d := sample.Dice(233)
	var out [][]byte
	for _, n := range []int{1, 2, 3} {
		for _, f := range d.Fields(n) {
			_, b := packed(f)
			out = append(out, b)
		}
	}
	return out
}

// P21.1, P21.2: packed bytes that are cut off, at every place.
func TestCutOff(t *testing.T) {
	for _, b := range some() {
		taken(t, b)
		for k := range b {
			refused(t, b[:k])
			refused(t, slices.Clone(b[:k])) // without the rest in the room behind
		}
	}
	d := sample.Dice(234)
	for _, f := range d.Fields(64) {
		_, b := packed(f)
		for _, k := range []int{1, 2, 3, len(b) / 2, len(b) - 8, len(b) - 1} {
			refused(t, b[:k])
		}
	}
}

// P21.1, P21.2: packed bytes with more behind them.
func TestMoreBehind(t *testing.T) {
	for _, b := range some() {
		for last := range 256 {
			refused(t, append(slices.Clone(b), byte(last)))
		}
		refused(t, append(slices.Clone(b), b...))
		refused(t, append(slices.Clone(b), make([]byte, 16)...))
		refused(t, append(slices.Clone(b), make([]byte, 70000)...))
		refused(t, append([]byte{0}, b...))
	}
}

// P21.1: every first byte, and every second one.
func TestHeads(t *testing.T) {
	for _, b := range some() {
		for head := range 256 {
			for place := range 2 {
				other := slices.Clone(b)
				other[place] = byte(head)
				// Bytes of one way may happen to be another's, but never another side's.
				if checkBytes(t, other) && place == 1 && other[1] != b[1] {
					t.Fatalf("% x is taken with the side %d", sample.Start(b), head)
				}
			}
		}
	}
	for way := range 256 {
		for n := range 256 {
			refused(t, []byte{byte(way), byte(n)})
			for _, many := range []int{2 * n * n, 8 * n * n, 16 * n * n} {
				if n < 5 || n > 62 && n < 68 && way < 4 {
					// Nothing but 0 is packed as differences, of a side that there is.
					if checkBytes(t, append([]byte{byte(way), byte(n)}, make([]byte, many)...)) != (way == 2 && n >= 1 && n <= 64 && many == 2*n*n) {
						t.Fatalf("way %d, side %d, %d bytes of 0", way, n, many)
					}
				}
			}
		}
	}
}

// P21.1: each way, written though another is the field's.
func TestOtherWays(t *testing.T) {
	d := sample.Dice(235)
	count := [3][3]int{}
	for _, n := range []int{1, 2, 3, 8, 33, 64} {
		for _, f := range d.Fields(n) {
			way, _ := packed(f)
			for other := range 3 {
				b, ok := written(f, other)
				if !ok {
					continue
				}
				if checkBytes(t, b) != (other == way) {
					t.Fatalf("%s: in way %d, not %d", sample.About(f), other, way)
				}
				count[way][other]++
			}
		}
	}
	// 0 instead of 1 and 2, 1 instead of 2 and 2 instead of 1.
	if min(count[1][0], count[2][0], count[2][1], count[1][2]) < 10 {
		t.Errorf("the samples are too much alike: %v", count)
	}
}

// P21.1: NaNs that a complex64 has, of which none is packed so.
func TestNarrowNaNs(t *testing.T) {
	for _, bits := range []uint32{0x7fc00000, 0x7fc00001, 0xffc00000, 0x7f800001, 0xff800001, 0x7fffffff, 0xffffffff, 0x7fa00000} {
		word := binary.BigEndian.AppendUint32(nil, bits)
		half := []byte{0x3f, 0, 0, 0}
		refused(t, slices.Concat([]byte{1, 1}, word, half))
		refused(t, slices.Concat([]byte{1, 1}, half, word))
		refused(t, slices.Concat([]byte{1, 2}, half, half, half, half, half, half, half, word))
	}
	for _, bits := range []uint32{0x7f800000, 0xff800000, 0x7f7fffff, 1, 0x807fffff, 0x00800000, 0x80000000} {
		taken(t, slices.Concat([]byte{1, 1}, []byte{0x3f, 0, 0, 0}, binary.BigEndian.AppendUint32(nil, bits)))
	}
}

// stretched: a number's groups with others of 0 behind them.
func stretched(groups []byte, by int) []byte {
	out := slices.Clone(groups)
	for range by {
		out[len(out)-1] |= 0x80
		out = append(out, 0)
	}
	return out
}

// P21.1: groups too many, groups without an end, and more groups than any difference wants.
func TestWrongGroups(t *testing.T) {
	for _, d := range []int64{0, 1, -1, 63, 64, -65, 8191, 1 << 20, -1 << 20, 1<<31 - 1, -1 << 31} {
		groups := binary.AppendVarint(nil, d)
		for by := 1; by <= 80; by++ {
			long := stretched(groups, by)
			refused(t, slices.Concat([]byte{2, 1}, long, []byte{0}))
			refused(t, slices.Concat([]byte{2, 1}, []byte{0}, long))
			refused(t, slices.Concat([]byte{2, 1}, long, long))
			refused(t, slices.Concat([]byte{2, 2, 0, 0, 0, 0, 0, 0, 0}, long))
			refused(t, slices.Concat([]byte{2, 2}, long, []byte{0, 0, 0, 0, 0, 0, 0}))
		}
	}
	for _, many := range []int{1, 4, 5, 9, 10, 11, 64, 8192, 100000} {
		for _, group := range []byte{0x80, 0x81, 0xff} {
			open := slices.Repeat([]byte{group}, many)
			refused(t, slices.Concat([]byte{2, 1}, open))
			refused(t, slices.Concat([]byte{2, 1, 0}, open))
			refused(t, slices.Concat([]byte{2, 64}, open))
			for _, end := range []byte{0, 1, 2, 0x7f} {
				if many > 4 {
					refused(t, slices.Concat([]byte{2, 1}, open, []byte{end, 0}))
					refused(t, slices.Concat([]byte{2, 1, 0}, open, []byte{end}))
				}
			}
		}
	}
}

// P21.1: differences that no int holds, with and without what would lead back from them.
func TestNumbersTooGreat(t *testing.T) {
	for _, number := range []uint64{1<<32 + 1, 1<<32 + 2, 1 << 33, 1<<33 + 1, 1<<35 - 1, 1 << 35, 1 << 53, 1<<62 + 4, 1<<63 - 1, 1 << 63, 1<<63 + 1, math.MaxUint64 - 1, math.MaxUint64} {
		groups := binary.AppendUvarint(nil, number)
		for _, back := range []uint64{0, 1, number, number ^ 1, number - 1, number + 1, -number, 1 - number} {
			other := binary.AppendUvarint(nil, back)
			refused(t, slices.Concat([]byte{2, 1}, groups, other))
			refused(t, slices.Concat([]byte{2, 1}, other, groups))
			refused(t, slices.Concat([]byte{2, 2}, groups, []byte{0}, other, []byte{0, 0, 0, 0, 0}))
			refused(t, slices.Concat([]byte{2, 2, 0}, groups, []byte{0}, other, []byte{0, 0, 0, 0}))
		}
	}
	// More than 64 bits: what goes round would be 0, 1, or 2^31.
	for _, low := range []uint64{0, 2, 1 << 32} {
		groups := binary.AppendUvarint(nil, low|1<<63)
		groups[9] = 2 // the bit behind the last, instead of that
		refused(t, slices.Concat([]byte{2, 1}, groups, []byte{0}))
		groups[9] = 3
		refused(t, slices.Concat([]byte{2, 1}, groups, []byte{0}))
	}
}

// P21.1: differences that lead to a part beyond 2^31, either way, in the first cell, between and in the last.
func TestPartsTooGreat(t *testing.T) {
	const top = 1 << 31
	for _, c := range []struct {
		steps []int64 // of first parts, the second ones being 2^24 + 1 all along, which no float32 keeps
		ok    bool
	}{
		{[]int64{top, 0, 0, 0}, true}, {[]int64{top + 1, 0, 0, 0}, false}, {[]int64{-top, 0, 0, 0}, true}, {[]int64{-top - 1, 0, 0, 0}, false},
		{[]int64{top, -2 * top, 2 * top, -2 * top}, true}, {[]int64{top, 1, -1, 0}, false}, {[]int64{top, -2*top - 1, 2 * top, 0}, false}, {[]int64{-top, 2 * top, 0, 0}, true}, {[]int64{-top, 2*top + 1, -1, 0}, false},
		{[]int64{top, 0, 0, 1}, false}, {[]int64{-top, 0, 0, -1}, false}, {[]int64{5, top - 5, 0, 0}, true}, {[]int64{5, top - 4, 0, 0}, false}, {[]int64{5, top - 4, -1, 0}, false}, {[]int64{-5, 0, 0, 5 - top}, true}, {[]int64{-5, 0, 0, 4 - top}, false},
	} {
		first, second := []byte{2, 2}, []byte{2, 2}
		for i, step := range c.steps {
			odd := []byte{0}
			if i == 0 {
				odd = binary.AppendVarint(nil, 1<<24+1)
			}
			first = slices.Concat(first, binary.AppendVarint(nil, step), odd)
			second = slices.Concat(second, odd, binary.AppendVarint(nil, step))
		}
		if checkBytes(t, first) != c.ok || checkBytes(t, second) != c.ok {
			t.Errorf("%v: whether it is taken is not as said", c.steps)
		}
	}
}

// P21.1: bytes drawn by chance, with heads and lengths that there are and with any.
func TestAnyBytes(t *testing.T) {
	d := sample.Dice(236)
	count := [4]int{}
	for range 40000 {
		n := int(1 + d.Word()%3)
		way := byte(d.Word() % 3)
		many := []int{16 * n * n, 8 * n * n, 2 * n * n}[way]
		b := []byte{way, byte(n)}
		for range many {
			next := byte(d.Word())
			if way == 2 && d.Word()%8 != 0 {
				next &= 0x7f
			}
			b = append(b, next)
		}
		if checkBytes(t, b) {
			count[way]++
		}
		for i := range b {
			b[i] = byte(d.Word())
		}
		if checkBytes(t, b[:d.Word()%uint64(len(b)+1)]) {
			count[3]++
		}
	}
	if min(count[0], count[1], count[2]) < 1000 {
		t.Errorf("the samples are too much alike: %v", count)
	}
}

// P21.1: packed bytes with one bit or one byte turned.
func TestTurnedBytes(t *testing.T) {
	d := sample.Dice(237)
	count := map[bool]int{}
	for _, b := range some() {
		for place := range b {
			other := slices.Clone(b)
			for bit := range 8 {
				other[place] = b[place] ^ 1<<bit
				count[checkBytes(t, other)]++
			}
			other[place] = ^b[place]
			count[checkBytes(t, other)]++
			other[place] = byte(d.Word())
			count[checkBytes(t, other)]++
		}
	}
	for _, f := range d.Fields(64) {
		_, b := packed(f)
		for range 10 {
			other := slices.Clone(b)
			other[d.Word()%uint64(len(b))] ^= 1 << (d.Word() % 8)
			count[checkBytes(t, other)]++
		}
	}
	if min(count[true], count[false]) < 1000 {
		t.Errorf("the samples are too much alike: %v", count)
	}
}
