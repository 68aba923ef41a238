package vault_test

import (
	"bytes"
	"encoding/binary"
	"math"
	"slices"
	"testing"

	"penumbra/api"
	"penumbra/pack"
	"penumbra/sample"
	"penumbra/vault"
)

// small: files of a few slices, whole ones and changes of every way of packing, few enough bytes to be gone through one by one.
func small() [][]byte {
	d := sample.Dice(261)
	tenths := api.Grid{N: 2, Cells: []complex128{0.1, 0.2i, 0.3, 0.4}}
	out := [][]byte{
		written(sample.One(3 - 1i)),
		written(sample.One(0.1), sample.One(0.1)),
		written(sample.One(0.5), sample.One(3), sample.One(complex(math.NaN(), sample.MinusNought()))),
		written(tenths, tenths, sample.With(tenths, 3, 0.5), sample.One(7)),
		written(sample.One(0.1), sample.Numbered(2), sample.One(0.1), sample.One(0.1)),
	}
	for range 4 {
		out = append(out, written(row(3, []int{1, 2}, &d)...))
	}
	return out
}

// noFiles: bytes that are none, of each fault one.
func noFiles() [][]byte {
	file := written(sample.One(0.1), sample.One(0.1))
	wrong := bytes.Clone(file)
	wrong[7]++
	return [][]byte{{0}, file[:20], file[:len(file)-1], append(bytes.Clone(file), 0), wrong, record(nil), record([]byte{1, 2, 1, 0, 0}), record([]byte{2, 2, 1, 6, 1}), make([]byte, mostBytes+1), {255, 255, 255, 255, 0, 0, 0, 0}}
}

// P22.1: what is no field is not added, to nothing, to a file, to a full one; bytes that are no file come first.
func TestNoFields(t *testing.T) {
	d := sample.Dice(262)
	full := written(row(64, []int{1}, &d)...)
	last := written(row(63, []int{1}, &d)...)
	none := sample.NoFields()
	for _, n := range append(sample.NoSides(), 0, -1, 65, math.MinInt, math.MaxInt) {
		none = append(none, api.Grid{N: n}, api.Grid{N: n, Cells: make([]complex128, 1)}, api.Grid{N: n, Cells: make([]complex128, 64*64)})
	}
	for _, f := range none {
		for _, file := range [][]byte{nil, {}, written(sample.One(3 - 1i)), written(sample.Numbered(2)), last, full} {
			if got, e := vault.Add(file, f); e != api.ErrArg || len(got) != 0 {
				t.Fatalf("%s behind %d bytes: %d bytes, error %d", sample.About(f), len(file), len(got), e)
			}
		}
		for _, b := range noFiles()[:8] {
			if got, e := vault.Add(b, f); e != api.ErrVault || len(got) != 0 {
				t.Fatalf("%s behind % x: %d bytes, error %d", sample.About(f), sample.Start(b), len(got), e)
			}
		}
	}
}

// P22.1: which error is told where several hold.
func TestWhichError(t *testing.T) {
	d := sample.Dice(263)
	list := row(64, []int{1, 2}, &d)
	full, torn := written(list...), written(list...)
	torn[len(torn)-1] ^= 1
	long := written(nearlyFull(5, 50, &d)...)
	good, none := sample.One(1), api.Grid{N: 2, Cells: make([]complex128, 3)}
	for _, c := range []struct {
		file []byte
		f    api.Grid
		want api.Errno
	}{
		{full, good, api.ErrLong}, {full, none, api.ErrArg}, {torn, good, api.ErrVault}, {torn, none, api.ErrVault}, {append(bytes.Clone(full), 0), none, api.ErrVault},
		{long, good, api.ErrLong}, {long, none, api.ErrArg}, {append(bytes.Clone(long), 0), good, api.ErrVault}, {append(bytes.Clone(long), written(good)...), none, api.ErrVault}, {append(bytes.Clone(long), written(good)...), good, api.ErrVault},
		{written(append(list, good)...), good, api.ErrVault}, {written(append(list, good)...), none, api.ErrVault}, {nil, none, api.ErrArg}, {nil, good, api.OK},
	} {
		if got, e := vault.Add(c.file, c.f); e != c.want || (len(got) == 0) != (e != api.OK) {
			t.Errorf("%d bytes, %s: %d bytes, error %d, not %d", len(c.file), sample.About(c.f), len(got), e, c.want)
		}
		checkAdd(t, c.file, c.f)
	}
	for _, b := range noFiles() {
		refused(t, b)
		for _, i := range places(1) {
			checkGet(t, b, i, nil, api.ErrVault)
		}
	}
}

// P22.1, P22.3: files that are cut off, at every place, and with any byte behind them.
func TestCutOff(t *testing.T) {
	for _, file := range small() {
		taken(t, file)
		for k := range file {
			check(t, file[:k])
			check(t, bytes.Clone(file[:k])) // without the rest in the room behind
		}
		for last := range 256 {
			refused(t, append(bytes.Clone(file), byte(last)))
		}
		refused(t, append(bytes.Clone(file), make([]byte, 8)...))
		refused(t, append(bytes.Clone(file), make([]byte, 70000)...))
		refused(t, append([]byte{0}, file...))
		refused(t, file[1:])
	}
}

// P22.1: one bit or one byte turned, at every place of a record: its length, its sum, the body's first byte, the packed bytes.
func TestTurnedBytes(t *testing.T) {
	d := sample.Dice(264)
	for _, file := range small() {
		for at := range file {
			other := bytes.Clone(file)
			for bit := range 8 {
				other[at] = file[at] ^ 1<<bit
				refused(t, other)
			}
			other[at] = ^file[at]
			refused(t, other)
			other[at] = file[at] + byte(1+d.Word()%255)
			refused(t, other)
		}
	}
}

// resummed: the file with the sum of each record set right, as far as the lengths lead.
func resummed(b []byte) []byte {
	out := bytes.Clone(b)
	for at := 0; at+8 <= len(out); {
		size := int(binary.BigEndian.Uint32(out[at:]))
		if size > len(out)-at-8 {
			break
		}
		binary.BigEndian.PutUint32(out[at+4:], summed(out[at+8:at+8+size]))
		at += 8 + size
	}
	return out
}

// P22.1: likewise with sums that are right, so that the bodies alone tell: some are others' bodies, most are none.
func TestTurnedBodies(t *testing.T) {
	count := map[bool]int{}
	for _, file := range small() {
		for at := range file {
			was := file[at]
			for _, value := range []byte{0, 1, 2, 3, 4, 127, 128, 255, was + 1, was - 1, was + 2, was - 2, ^was, was ^ 128, was ^ 64, was ^ 16} {
				other := bytes.Clone(file)
				other[at] = value
				if other = resummed(other); !bytes.Equal(other, file) {
					count[check(t, other)]++
				}
			}
		}
	}
	if min(count[true], count[false]) < 1000 {
		t.Errorf("the samples are too much alike: %v", count)
	}
}

// P22.1: sums that are no body's: every bit, the bytes the other way round, sums of the whole record, of the packed bytes alone, from 0 on.
func TestWrongSums(t *testing.T) {
	for _, b := range [][]byte{wholeBody(sample.One(3 - 1i)), wholeBody(sample.Numbered(3)), wholeBody(sample.One(0.1))} {
		right := record(b)
		taken(t, right)
		sums := []uint32{0, 1, 31, math.MaxUint32, summed(b) + 1, summed(b) - 1, ^summed(b), summed(right), summed(b[1:]), summed(right[:4]), binary.LittleEndian.Uint32(right[4:])}
		sum := uint32(0)
		for _, next := range b {
			sum = 31*sum + uint32(next)
		}
		for _, wrong := range append(sums, sum) {
			other := bytes.Clone(right)
			binary.BigEndian.PutUint32(other[4:], wrong)
			refused(t, other)
			refused(t, append(bytes.Clone(right), other...))
		}
	}
}

// P22.1: lengths: 0, fewer and more than there are, the greatest number, and such whose low half or whose sign would do.
func TestWrongLengths(t *testing.T) {
	for _, file := range small() {
		size := binary.BigEndian.Uint32(file)
		for _, wrong := range []uint32{0, 1, 2, size - 1, size + 1, size + 8, size + 13, uint32(len(file)) - 8, uint32(len(file)) - 7, uint32(len(file)), 1 << 16, 1<<16 | size, 1 << 20, 1 << 24, 1<<24 | size, 1 << 31, 1<<31 | size, 1<<31 - 1, -size, -size - 8, math.MaxUint32 - 8, math.MaxUint32 - 7, math.MaxUint32 - 1, math.MaxUint32} {
			if wrong == size {
				continue
			}
			other := bytes.Clone(file)
			binary.BigEndian.PutUint32(other, wrong)
			refused(t, other)
			// With the sum of what lies there, where that is the body.
			refused(t, resummed(other))
			refused(t, append(bytes.Clone(file), other...))
			refused(t, append(bytes.Clone(file), resummed(other)...))
		}
		// The bytes of the length the other way round.
		other := bytes.Clone(file)
		binary.LittleEndian.PutUint32(other, size)
		refused(t, other)
	}
	for _, many := range []int{8, 9, 16, 70, 100000, mostBytes, mostBytes + 8} {
		for _, value := range []byte{0, 1, 255} {
			refused(t, bytes.Repeat([]byte{value}, many))
		}
	}
	refused(t, record(nil)) // a body without its first byte
	refused(t, append(written(sample.One(1)), record(nil)...))
	refused(t, record([]byte{0}))
	refused(t, record([]byte{1}))
}

// P22.1: a body's first byte is 0 or 1.
func TestFirstBytes(t *testing.T) {
	tenth := sample.One(0.1)
	whole := wholeBody(tenth)
	change, _ := changeBody(tenth, tenth)
	for first := range 256 {
		if b := record(body(byte(first), whole[1:])); check(t, b) != (first == 0) {
			t.Errorf("a slice behind %d", first)
		}
		// Packed bytes of 0 are a slice too.
		if b := append(written(tenth), record(body(byte(first), change[1:]))...); check(t, b) != (first <= 1) {
			t.Errorf("a change behind %d", first)
		}
	}
	list, e := vault.Slices(append(written(tenth), record(body(0, change[1:]))...))
	if e != api.OK || !sameSlices(list, []api.Grid{tenth, sample.One(0)}) {
		t.Errorf("%d slices, error %d", len(list), e)
	}
}

// P22.1: a change at the first slice, and behind one of another side.
func TestChangeFromNothing(t *testing.T) {
	d := sample.Dice(265)
	for _, n := range []int{1, 2, 3, 64} {
		for _, f := range d.Fields(n) {
			packed, _ := pack.Pack(f)
			refused(t, record(body(1, packed)))
			if n > 3 {
				continue
			}
			for _, m := range []int{1, 2, 3, 4} {
				if m != n {
					ahead := written(sample.Numbered(n), anyBits(m, &d)) // of the same side there is one farther ahead
					refused(t, append(ahead, record(body(1, packed))...))
				}
			}
		}
	}
}

// P22.1: a slice that is written whole though its change would be shorter, and the other way round, be the change longer or as long.
func TestOtherKind(t *testing.T) {
	d := sample.Dice(266)
	count := map[int]int{}
	for _, n := range []int{1, 2, 4, 16} {
		for _, p := range pairs(n, &d) {
			ahead := written(p[0])
			whole := wholeBody(p[1])
			change, _ := changeBody(p[1], p[0])
			bodies := [][]byte{whole, change}
			kind := 0
			if len(change) < len(whole) {
				kind = 1
			}
			right, other := append(bytes.Clone(ahead), record(bodies[kind])...), append(bytes.Clone(ahead), record(bodies[1-kind])...)
			taken(t, right)
			refused(t, other)
			refused(t, append(other, behind(p[:], sample.One(1))...))
			count[sign(len(change)-len(whole))]++
		}
	}
	if min(count[-1], count[0], count[1]) < 100 {
		t.Errorf("the samples are too much alike: %v", count)
	}
}

// P22.1: packed bytes that are none, as a slice and as a change.
func TestNotPacked(t *testing.T) {
	tenth := sample.One(0.1)
	for _, packed := range [][]byte{
		{}, {0}, {2}, {2, 0}, {2, 1}, {2, 1, 6}, {2, 1, 6, 1, 0}, {2, 1, 0x86, 0, 1}, {3, 1, 6, 1}, {2, 65, 6, 1}, {2, 2, 6, 1}, {255, 255, 255, 255}, make([]byte, 18), make([]byte, 70000),
		append(wide(tenth), 0), wide(tenth)[:17], append([]byte{2, 65}, make([]byte, 2*65*65)...), slices.Concat(wide(tenth), wide(tenth)),
	} {
		for kind := range 2 {
			wrong := record(body(byte(kind), packed))
			refused(t, wrong)
			refused(t, append(written(tenth), wrong...))
			refused(t, append(written(tenth, tenth), wrong...))
			refused(t, slices.Concat(written(tenth), wrong, written(tenth)))
		}
	}
}

// P22.1: packed bytes in a way that isn't the shortest, as a slice and as a change.
func TestNotTheShortest(t *testing.T) {
	d := sample.Dice(267)
	count := map[int]int{}
	for _, n := range []int{1, 2, 5} {
		ahead := anyBits(n, &d)
		for _, f := range []api.Grid{sample.Numbered(n), sample.Filled(n, 0), sample.Filled(n, 0.5), sample.Filled(n, complex(1<<30, -1<<30)), sample.Filled(n, complex(sample.MinusNought(), 3))} {
			way, _ := pack.Way(f)
			others := [][]byte{wide(f), narrow(f)}
			if f.Cells[0] == complex(1<<30, -1<<30) || way == 2 {
				others = append(others, steps(f))
			}
			for other, b := range others {
				right := other == way
				if check(t, record(body(0, b))) != right || check(t, append(written(ahead), record(body(0, b))...)) != right || check(t, append(written(ahead), record(body(1, b))...)) != right {
					t.Fatalf("%s: in way %d, not %d", sample.About(f), other, way)
				}
				if !right {
					count[way]++
				}
			}
		}
	}
	if count[1] == 0 || count[2] == 0 {
		t.Errorf("the samples are too much alike: %v", count)
	}
}

// P22.1: bytes longer than a file, and records beyond what a file has.
func TestTooLong(t *testing.T) {
	d := sample.Dice(268)
	list := nearlyFull(0, 62, &d)
	full := written(list...)
	taken(t, full)
	for _, more := range [][]byte{{0}, {255}, make([]byte, 8), make([]byte, mostBytes), written(sample.One(1)), written(sample.Numbered(64)), full} {
		long := append(bytes.Clone(full), more...)
		refused(t, long)
		if many, at := vault.Cut(long); many != len(list) || at != mostBytes {
			t.Fatalf("%d bytes: Cut: %d, %d", len(long), many, at)
		}
	}
	// A record that begins within 2^20 bytes and ends beyond, by its head alone and by its body.
	for _, room := range []int{1, 7, 8, 9, 12} {
		list := nearlyFull(room, 50, &d)
		file := written(list...)
		long := append(bytes.Clone(file), record(wholeBody(sample.One(3-1i)))...)
		refused(t, long)
		if many, at := vault.Cut(long); many != len(list) || at != mostBytes-room {
			t.Fatalf("room %d: Cut: %d, %d", room, many, at)
		}
	}
	// Ones of more than 64 slices, with and without what is torn behind them.
	many := slices.Repeat([]api.Grid{sample.One(5)}, 1000)
	for _, k := range []int{65, 128, 1000} {
		b := written(many[:k]...)
		refused(t, b)
		refused(t, b[:len(b)-1])
		if n, at := vault.Cut(b); n != 64 || at != len(b)/k*64 {
			t.Fatalf("%d slices: Cut: %d, %d", k, n, at)
		}
	}
}

// P22.1: bytes drawn by chance: any, and records drawn with right sums whose bodies are right or nearly so.
func TestAnyBytes(t *testing.T) {
	d := sample.Dice(269)
	count := map[int]int{}
	for range 20000 {
		b := make([]byte, d.Word()%40)
		for i := range b {
			b[i] = byte(d.Word())
			if i < 3 && d.Word()%2 == 0 {
				b[i] = 0
			}
		}
		check(t, b)
		check(t, record(b))
	}
	for range 3000 {
		var b []byte
		var list []api.Grid
		for range d.Word() % 6 {
			f := next(list, []int{1, 2}, &d)
			ahead := list
			list = append(list, f)
			one := behind(ahead, f)
			if d.Word()%6 == 0 {
				one = spoilt(ahead, f, &d)
			}
			b = append(b, one...)
		}
		if check(t, b) {
			count[0]++
		} else {
			many, _ := vault.Cut(b)
			count[1+many]++
		}
	}
	if min(count[0], count[1], count[2], count[3]) < 100 {
		t.Errorf("the samples are too much alike: %v", count)
	}
}

// spoilt: a record that is not that of the slice behind these, or not always.
func spoilt(ahead []api.Grid, f api.Grid, d *sample.Dice) []byte {
	one := behind(ahead, f)
	switch d.Word() % 6 {
	case 0:
		return one[:d.Word()%uint64(len(one))]
	case 1:
		return append(one, byte(d.Word()))
	case 2:
		one[d.Word()%uint64(len(one))]++
		return one
	case 3:
		return record(wholeBody(f))
	case 4:
		packed, _ := pack.Pack(f)
		return record(body(1, packed))
	}
	return record(body(0, wide(f)))
}
