package pack_test

import (
	"encoding/binary"
	"math"

	"penumbra/api"
)

// kept: do the bits stay where the part becomes a float32, and is it a number?
func kept(x float64) bool {
	return x == x && math.Float64bits(float64(float32(x))) == math.Float64bits(x)
}

// stepped: is the part whole, without a sign if it is a nought, and at most 2^31 either way?
func stepped(x float64) bool {
	return math.Floor(x) == x && math.Abs(x) <= 1<<31 && math.Float64bits(x) != 1<<63
}

// partsOf: of each cell, row by row, the first one's ahead.
func partsOf(f api.Grid) []float64 {
	var out []float64
	for _, c := range f.Cells {
		out = append(out, real(c), imag(c))
	}
	return out
}

// written: the bytes of a field in a way, by the chapter's words; false where it may not be taken.
func written(f api.Grid, way int) ([]byte, bool) {
	out := []byte{byte(way), byte(f.N)}
	parts := partsOf(f)
	for i, x := range parts {
		switch way {
		case 0:
			out = binary.BigEndian.AppendUint64(out, math.Float64bits(x))
		case 1:
			if !kept(x) {
				return nil, false
			}
			out = binary.BigEndian.AppendUint32(out, math.Float32bits(float32(x)))
		case 2:
			if !stepped(x) {
				return nil, false
			}
			if i >= 2 {
				x -= parts[i-2]
			}
			out = binary.AppendVarint(out, int64(x))
		}
	}
	return out, true
}

// packed: the way that needs the fewest bytes, of several the least, and the bytes.
func packed(f api.Grid) (int, []byte) {
	best, bytes := 0, []byte(nil)
	for way := 2; way >= 0; way-- {
		if b, ok := written(f, way); ok && (bytes == nil || len(b) <= len(bytes)) {
			best, bytes = way, b
		}
	}
	return best, bytes
}

// parsed: the field whose packed bytes these are, or false, each rule looked at by itself.
func parsed(b []byte) (api.Grid, bool) {
	if len(b) < 2 || b[1] < 1 || b[1] > 64 {
		return api.Grid{}, false
	}
	f := api.Grid{N: int(b[1])}
	parts, ok := parsedParts(b[0], b[2:], 2*f.N*f.N)
	if !ok {
		return api.Grid{}, false
	}
	for i := 0; i < len(parts); i += 2 {
		f.Cells = append(f.Cells, complex(parts[i], parts[i+1]))
	}
	if way, _ := packed(f); way != int(b[0]) {
		return api.Grid{}, false
	}
	return f, true
}

func parsedParts(way byte, b []byte, many int) ([]float64, bool) {
	var out []float64
	switch way {
	case 0:
		for ; len(b) >= 8; b = b[8:] {
			out = append(out, math.Float64frombits(binary.BigEndian.Uint64(b)))
		}
	case 1:
		for ; len(b) >= 4; b = b[4:] {
			x := math.Float32frombits(binary.BigEndian.Uint32(b))
			if x != x {
				return nil, false
			}
			out = append(out, float64(x))
		}
	case 2:
		for len(b) > 0 && len(out) < many {
			d, size := binary.Varint(b)
			if size <= 0 || size != len(binary.AppendVarint(nil, d)) || d > 1<<32 || d < -1<<32 {
				return nil, false
			}
			if len(out) >= 2 {
				d += int64(out[len(out)-2])
			}
			if d > 1<<31 || d < -1<<31 {
				return nil, false
			}
			out, b = append(out, float64(d)), b[size:]
		}
	}
	return out, len(out) == many && len(b) == 0
}
