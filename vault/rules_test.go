package vault_test

import (
	"bytes"
	"encoding/binary"
	"math"

	"penumbra/api"
	"penumbra/pack"
	"penumbra/sample"
)

// What the chapter says, written out without the program's own means; packed bytes and changes are layer 21's.

// The limits of a file.
const (
	mostSlices = 64
	mostBytes  = 1048576
)

// summed: the sum, each step taken modulo 2^32 by a division.
func summed(b []byte) uint32 {
	sum := uint64(1)
	for _, next := range b {
		sum = (31*sum + uint64(next)) % 4294967296
	}
	return uint32(sum)
}

// record: one with this body.
func record(body []byte) []byte {
	out := binary.BigEndian.AppendUint32(nil, uint32(len(body)))
	return append(binary.BigEndian.AppendUint32(out, summed(body)), body...)
}

// body: one with this first byte.
func body(first byte, packed []byte) []byte { return append([]byte{first}, packed...) }

// wholeBody: that of the slice itself.
func wholeBody(f api.Grid) []byte {
	packed, _ := pack.Pack(f)
	return body(0, packed)
}

// changeBody: that of the slice's change from the one ahead, if that has the same side.
func changeBody(f, ahead api.Grid) ([]byte, bool) {
	if f.N != ahead.N {
		return nil, false
	}
	change, _ := pack.Change(f, ahead)
	packed, _ := pack.Pack(change)
	return body(1, packed), true
}

// behind: the record of a slice behind others.
func behind(ahead []api.Grid, f api.Grid) []byte {
	whole := wholeBody(f)
	if len(ahead) > 0 {
		if change, ok := changeBody(f, ahead[len(ahead)-1]); ok && len(change) < len(whole) {
			return record(change)
		}
	}
	return record(whole)
}

// written: the records of slices one behind the other, be they as many and as long as they will.
func written(list ...api.Grid) []byte {
	var out []byte
	for i, f := range list {
		out = append(out, behind(list[:i], f)...)
	}
	return out
}

// isField: has it a side that there is, and as many cells?
func isField(f api.Grid) bool { return f.N >= 1 && f.N <= 64 && len(f.Cells) == f.N*f.N }

// candidates: what slice the bytes could tell behind these, whether its record is such or not.
func candidates(ahead []api.Grid, b []byte) []api.Grid {
	if len(b) < 8 {
		return nil
	}
	size := uint64(binary.BigEndian.Uint32(b))
	if size < 1 || size > uint64(len(b)-8) {
		return nil
	}
	f, e := pack.Unpack(b[9 : 8+size])
	if e != api.OK {
		return nil
	}
	out := []api.Grid{f}
	if len(ahead) > 0 && ahead[len(ahead)-1].N == f.N {
		g, _ := pack.Change(f, ahead[len(ahead)-1])
		out = append(out, g)
	}
	return out
}

// ruled: of any bytes the slices of the longest beginning that is a file, and how long it is: it goes on as long as there is a slice whose record stands there.
func ruled(b []byte) (found []api.Grid, size int) {
	for more := true; more && len(found) < mostSlices; {
		more = false
		for _, f := range candidates(found, b[size:]) {
			next := behind(found, f)
			if bytes.HasPrefix(b[size:], next) && size+len(next) <= mostBytes {
				found, size, more = append(found, f), size+len(next), true
				break
			}
		}
	}
	return found, size
}

// added: what Add tells, by the chapter's words.
func added(b []byte, f api.Grid) ([]byte, api.Errno) {
	found, size := ruled(b)
	if size != len(b) {
		return nil, api.ErrVault
	}
	if !isField(f) {
		return nil, api.ErrArg
	}
	all := append(bytes.Clone(b), behind(found, f)...)
	if len(found) == mostSlices || len(all) > mostBytes {
		return nil, api.ErrLong
	}
	return all, api.OK
}

// wide: the bytes of a field in way 0, whichever is the shortest.
func wide(f api.Grid) []byte {
	out := []byte{0, byte(f.N)}
	for _, bits := range sample.Bits(f.Cells) {
		out = binary.BigEndian.AppendUint64(out, bits)
	}
	return out
}

// narrow: in way 1; what a float32 has no room for is lost.
func narrow(f api.Grid) []byte {
	out := []byte{1, byte(f.N)}
	for _, c := range f.Cells {
		out = binary.BigEndian.AppendUint32(out, math.Float32bits(float32(real(c))))
		out = binary.BigEndian.AppendUint32(out, math.Float32bits(float32(imag(c))))
	}
	return out
}

// steps: in way 2; cells must be whole.
func steps(f api.Grid) []byte {
	out := []byte{2, byte(f.N)}
	var ahead complex128
	for _, c := range f.Cells {
		out = binary.AppendVarint(out, int64(real(c)-real(ahead)))
		out = binary.AppendVarint(out, int64(imag(c)-imag(ahead)))
		ahead = c
	}
	return out
}
