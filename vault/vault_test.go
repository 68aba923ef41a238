package vault_test

import (
	"bytes"
	"math"
	"math/big"
	"slices"
	"testing"

	"penumbra/api"
	"penumbra/sample"
	"penumbra/vault"
)

// P22.1: the chapter's examples, and others that are written out.
func TestExamples(t *testing.T) {
	one := []byte{0, 0, 0, 5, 0x01, 0xb5, 0xc5, 0xd9, 0, 2, 1, 6, 1}
	two := slices.Concat(one, one)
	if got := filed(t, sample.One(3-1i)); !bytes.Equal(got, one) {
		t.Errorf("one slice: % x", got)
	}
	if got := filed(t, sample.One(3-1i), sample.One(3-1i)); !bytes.Equal(got, two) {
		t.Errorf("the same again: % x", got)
	}
	if many, at := vault.Cut(two[:20]); many != 1 || at != 13 {
		t.Errorf("Cut of 20 bytes: %d, %d", many, at)
	}
	if list, e := vault.Slices([]byte{0}); e != api.ErrVault || len(list) != 0 {
		t.Errorf("Slices(00): %d, error %d", len(list), e)
	}
	// A half and a half with a sign: whole it has 11 bytes, its change, which is the sign alone, as many.
	halves := filed(t, sample.One(0.5), sample.One(-0.5))
	if want := []byte{0, 1, 1, 0xbf, 0, 0, 0, 0, 0, 0, 0}; !bytes.Equal(halves[19:23], []byte{0, 0, 0, 11}) || !bytes.Equal(halves[27:], want) {
		t.Errorf("halves: % x", halves)
	}
	// A tenth twice: 19 bytes whole, the change 5.
	tenths := filed(t, sample.One(0.1), sample.One(0.1))
	if want := []byte{0, 0, 0, 5, 0x01, 0xc3, 0xdc, 0x9f, 1, 2, 1, 0, 0}; !bytes.Equal(tenths[27:], want) {
		t.Errorf("tenths: % x, not % x", tenths[27:], want)
	}
	for _, b := range [][]byte{nil, {}, one, two, halves, tenths} {
		taken(t, b)
	}
}

// P22.1: Sum of no bytes, of one, of some that are written out.
func TestSum(t *testing.T) {
	for _, c := range []struct {
		b    []byte
		want uint32
	}{
		{nil, 1}, {[]byte{}, 1}, {[]byte{0}, 31}, {[]byte{255}, 286}, {[]byte{1, 2}, 31*32 + 2}, {[]byte{2, 1}, 31*33 + 1}, {[]byte{0, 0, 0}, 29791}, {[]byte{0, 2, 1, 6, 1}, 0x01b5c5d9},
		{make([]byte, 6), 887503681}, {make([]byte, 7), 1742810335}, // 31^7 less six times 2^32
	} {
		if got := vault.Sum(c.b); got != c.want {
			t.Errorf("Sum(% x): %d, not %d", c.b, got, c.want)
		}
	}
	for first := range 256 {
		if got := vault.Sum([]byte{byte(first)}); got != uint32(31+first) {
			t.Errorf("Sum(%x): %d", first, got)
		}
	}
}

// P22.1: Sum of many bytes, where it goes round: the powers of 31 taken without bounds.
func TestSumGoesRound(t *testing.T) {
	d := sample.Dice(251)
	for _, many := range []int{1, 5, 6, 7, 8, 9, 64, 1000, 5000} {
		for _, draw := range []func() byte{func() byte { return byte(d.Word()) }, func() byte { return 0 }, func() byte { return 255 }} {
			b := make([]byte, many)
			want := big.NewInt(1)
			for i := range b {
				b[i] = draw()
				want.Add(want.Mul(want, big.NewInt(31)), big.NewInt(int64(b[i])))
			}
			want.Mod(want, big.NewInt(1<<32))
			if got := vault.Sum(b); uint64(got) != want.Uint64() {
				t.Fatalf("%d bytes: %d, not %v", many, got, want)
			}
		}
	}
	long := make([]byte, mostBytes+5)
	for i := range long {
		long[i] = byte(d.Word())
	}
	if got := vault.Sum(long); got != summed(long) {
		t.Errorf("%d bytes: %d, not %d", len(long), got, summed(long))
	}
}

// P22.1: Add to nothing, at every side and cells of any kind.
func TestAddToNothing(t *testing.T) {
	d := sample.Dice(252)
	for n := 1; n <= 64; n += 1 + n/8 {
		for _, f := range d.Fields(n) {
			file, ok := checkAdd(t, nil, f)
			if !ok || file[8] != 0 {
				t.Fatalf("%s: % x", sample.About(f), sample.Start(file))
			}
			if list, e := vault.Slices(file); e != api.OK || len(list) != 1 || !sample.SameField(list[0], f) {
				t.Fatalf("%s: %d slices, error %d", sample.About(f), len(list), e)
			}
		}
	}
}

// pairs: of a slice and one behind it of the same side: like it, nearly like it, wholly unlike, and such that its change is the slice itself.
func pairs(n int, d *sample.Dice) [][2]api.Grid {
	var out [][2]api.Grid
	all := d.Fields(n)
	for i, f := range all {
		for _, g := range []api.Grid{f, turned(f, d), turned(turned(f, d), d), all[(i+1)%len(all)], all[(i*7+3)%len(all)], sample.Filled(n, 0), sample.With(f, n*n-1, complex(math.NaN(), math.Inf(1)))} {
			out = append(out, [2]api.Grid{f, g}, [2]api.Grid{g, f})
		}
	}
	return out
}

// P22.1: Add behind a slice of the same side: by its change just if that is shorter.
func TestAddBehind(t *testing.T) {
	d := sample.Dice(253)
	count := map[int]int{}
	for _, n := range []int{1, 2, 3, 5, 16, 33, 64} {
		for _, p := range pairs(n, &d) {
			ahead := written(p[0])
			file, ok := checkAdd(t, ahead, p[1])
			if !ok {
				t.Fatalf("%s behind %s is refused", sample.About(p[1]), sample.About(p[0]))
			}
			whole := len(wholeBody(p[1]))
			change, _ := changeBody(p[1], p[0])
			shorter := len(change) < whole
			if kind := file[len(ahead)+8]; (kind == 1) != shorter || kind > 1 || len(file) != len(ahead)+8+min(whole, len(change)) {
				t.Fatalf("%s behind %s: the first byte %d, %d bytes; whole %d, its change %d", sample.About(p[1]), sample.About(p[0]), kind, len(file)-len(ahead), whole, len(change))
			}
			if list, e := vault.Slices(file); e != api.OK || !sameSlices(list, p[:]) {
				t.Fatalf("%s behind %s: error %d, %d slices", sample.About(p[1]), sample.About(p[0]), e, len(list))
			}
			count[sign(len(change)-whole)]++
		}
	}
	if min(count[-1], count[0], count[1]) < 200 {
		t.Errorf("the samples are too much alike: %v", count)
	}
}

func sign(x int) int { return min(max(x, -1), 1) }

// P22.1: behind a slice of another side every slice is whole, and the one behind the next is looked at against that alone.
func TestAddBehindOtherSides(t *testing.T) {
	d := sample.Dice(254)
	for _, n := range []int{1, 2, 7, 63, 64} {
		for _, m := range []int{1, 2, 3, 8, 64} {
			f, g := anyBits(n, &d), anyBits(m, &d)
			file := written(f, g)
			longer, ok := checkAdd(t, file, f)
			if !ok {
				t.Fatalf("sides %d and %d: refused", n, m)
			}
			if n != m && longer[len(file)+8] != 0 {
				t.Fatalf("side %d behind side %d is not whole", n, m)
			}
			last, ok := checkAdd(t, longer, f)
			if !ok || n > 1 && last[len(longer)+8] != 1 {
				t.Fatalf("side %d behind itself is whole", n)
			}
			taken(t, last)
		}
	}
}

// P22.1: the change is that from the slice ahead, not from the first one, nor from the change ahead.
func TestChangeFromTheLast(t *testing.T) {
	d := sample.Dice(255)
	for _, n := range []int{2, 3, 9} {
		first := anyBits(n, &d)
		list := []api.Grid{first}
		for range 12 {
			list = append(list, turned(list[len(list)-1], &d))
		}
		list = append(list, first, anyBits(n, &d), first)
		file := filed(t, list...)
		if !bytes.Equal(file, written(list...)) {
			t.Fatalf("side %d: % x", n, sample.Start(file))
		}
		if got, e := vault.Slices(file); e != api.OK || !sameSlices(got, list) {
			t.Fatalf("side %d: %d slices, error %d", n, len(got), e)
		}
	}
}

// P22.1: files of 0, 1, 2, 63 and 64 slices: all calls; Get at every number there is, at those next to them and at the ends of int.
func TestHowMany(t *testing.T) {
	d := sample.Dice(256)
	for _, many := range []int{0, 1, 2, 3, 62, 63, 64} {
		for range 4 {
			list := row(many, []int{1, 2, 3, 4}, &d)
			file := filed(t, list...)
			if !bytes.Equal(file, written(list...)) {
				t.Fatalf("%d slices: % x", many, sample.Start(file))
			}
			taken(t, file)
			if got, e := vault.Slices(file); e != api.OK || !sameSlices(got, list) {
				t.Fatalf("%d slices: %d, error %d", many, len(got), e)
			}
			for i := range list {
				checkGet(t, file, i, list, api.OK)
			}
			for _, i := range places(many) {
				checkGet(t, file, i, list, api.OK)
			}
			if n, at := vault.Cut(file); n != many || at != len(file) {
				t.Fatalf("%d slices: Cut: %d, %d of %d", many, n, at, len(file))
			}
		}
	}
}

// P22.1: a file has at most 64 slices.
func TestMostSlices(t *testing.T) {
	d := sample.Dice(257)
	for _, sides := range [][]int{{1}, {2}, {1, 3, 5}} {
		list := row(66, sides, &d)
		file := filed(t, list[:63]...)
		full, ok := checkAdd(t, file, list[63])
		if !ok {
			t.Fatal("the slice number 64 is refused")
		}
		for _, f := range []api.Grid{list[64], list[63], sample.One(0), sample.Numbered(64)} {
			if got, e := vault.Add(full, f); e != api.ErrLong || len(got) != 0 {
				t.Fatalf("one more: %d bytes, error %d", len(got), e)
			}
			checkAdd(t, full, f)
		}
		taken(t, full)
		// Records of more slices are no file, and the beginning has 64.
		for _, many := range []int{65, 66} {
			more := written(list[:many]...)
			refused(t, more)
			if n, at := vault.Cut(more); n != 64 || at != len(full) {
				t.Fatalf("%d slices: Cut: %d, %d", many, n, at)
			}
		}
	}
}

// nearlyFull: slices of any bits, no two neighbours of one side, till a file of mostBytes bytes has so much room left; the last of them has the side given, and is packed in way 0.
func nearlyFull(room, side int, d *sample.Dice) []api.Grid {
	list := []api.Grid{}
	left := mostBytes - room
	for left > 200000 {
		f := anyBits(64-len(list)%2, d)
		list = append(list, f)
		left -= 8 + len(wholeBody(f))
	}
	last := anyBits(side, d)
	left -= 8 + len(wholeBody(last))
	for k := 0; left > 0; k++ {
		size := min(left, 25000)
		if left > 25000 && left < 45000 {
			size = left / 2
		}
		list = append(list, sized(60+k%2, size-9))
		left -= size
	}
	return append(list, last)
}

// P22.1: a file has at most 2^20 bytes: with one slice more just as many, one less and one too many.
func TestMostBytes(t *testing.T) {
	d := sample.Dice(258)
	const room = 20000
	list := nearlyFull(room, 62, &d)
	file := filed(t, list...)
	if len(file) != mostBytes-room {
		t.Fatalf("%d bytes", len(file))
	}
	taken(t, file)
	for _, by := range []int{-2, -1, 0, 1, 2, 300} {
		f := sized(61, room-9+by)
		longer, ok := checkAdd(t, file, f)
		if ok != (by <= 0) || ok && len(longer) != mostBytes+by {
			t.Fatalf("by %d: %d bytes, %v", by, len(longer), ok)
		}
		if ok {
			taken(t, longer)
		}
		if by != 0 {
			continue
		}
		for _, g := range []api.Grid{f, sample.One(0), anyBits(64, &d)} {
			if got, e := vault.Add(longer, g); e != api.ErrLong || len(got) != 0 {
				t.Fatalf("behind 2^20 bytes: %d, error %d", len(got), e)
			}
		}
	}
	// What Add refuses is no file either, whoever writes it.
	for _, by := range []int{1, 2, 300} {
		long := written(append(list, sized(61, room-9+by))...)
		refused(t, long)
		if many, at := vault.Cut(long); many != len(list) || at != len(file) {
			t.Fatalf("%d bytes: Cut: %d, %d", len(long), many, at)
		}
		refused(t, append(long, behind(nil, sample.One(1))...))
	}
}

// P22.1: what counts is how long the slice is as it is written: by its change it may fit where whole it would not.
func TestMostBytesByChange(t *testing.T) {
	d := sample.Dice(259)
	const change = 8 + 1 + 2 + 2*62*62 // the record of a change that is 0 everywhere
	for _, room := range []int{change - 1, change, change + 1} {
		list := nearlyFull(room, 62, &d)
		file := filed(t, list...)
		last := list[len(list)-1]
		longer, ok := checkAdd(t, file, last)
		if len(file) != mostBytes-room || ok != (room >= change) || ok && len(longer) != len(file)+change {
			t.Fatalf("room %d: %d bytes, %v", room, len(longer), ok)
		}
		if ok {
			taken(t, longer)
		}
		if _, ok := checkAdd(t, file, anyBits(62, &d)); ok {
			t.Fatalf("room %d: taken whole", room)
		}
	}
}
