package pack

import (
	"math"

	"penumbra/api"
	"penumbra/cx"
)

// The ways, by the number that a field's first byte tells.
const (
	wide   = iota // the bits of each part
	narrow        // the bits of each part of a complex64
	steps         // how far each part is from that of the cell ahead
	ways          // how many there are
)

// headBytes: the way and the side.
const headBytes = 2

// mostWhole: how great a part may be for its steps to be told.
const mostWhole = 1 << 31

// shortest: the packed bytes. A way must be shorter than those ahead of it, since of several the least is taken.
func shortest(f api.Grid) []byte {
	var best []byte
	for way := range ways {
		b, ok := write(f, way)
		if ok && (best == nil || len(b) < len(best)) {
			best = b
		}
	}
	return best
}

// write: the field's bytes in a way; false where it may not be taken.
func write(f api.Grid, way int) ([]byte, bool) {
	head := []byte{byte(way), byte(f.N)}
	switch way {
	case narrow:
		return writeNarrow(head, f.Cells)
	case steps:
		return writeSteps(head, f.Cells)
	}
	return writeWide(head, f.Cells), true
}

// read: the field whose bytes these are, in whichever way, be it the shortest or not.
func read(b []byte) (api.Grid, bool) {
	if len(b) < headBytes || !isSide(int(b[1])) {
		return api.Grid{}, false
	}
	n := int(b[1])
	cells, ok := readCells(int(b[0]), b[headBytes:], n*n)
	return api.Grid{N: n, Cells: cells}, ok
}

func readCells(way int, from []byte, count int) ([]complex128, bool) {
	switch way {
	case wide:
		return readParts(from, count, math.Float64frombits)
	case narrow:
		return readParts(from, count, func(bits uint32) float64 { return float64(math.Float32frombits(bits)) })
	case steps:
		return readSteps(from, count)
	}
	return nil, false
}

func writeWide(to []byte, cells []complex128) []byte {
	for _, c := range cells {
		to = writeWord(to, math.Float64bits(real(c)))
		to = writeWord(to, math.Float64bits(imag(c)))
	}
	return to
}

func writeNarrow(to []byte, cells []complex128) ([]byte, bool) {
	for _, c := range cells {
		small, kept := cx.Narrow(c)
		if !kept {
			return nil, false
		}
		to = writeWord(to, math.Float32bits(real(small)))
		to = writeWord(to, math.Float32bits(imag(small)))
	}
	return to, true
}

func writeSteps(to []byte, cells []complex128) ([]byte, bool) {
	var p, q int64 // the parts of the cell ahead
	for _, c := range cells {
		if !cx.Whole(c, mostWhole) {
			return nil, false
		}
		x, y := int64(real(c)), int64(imag(c))
		to = writeGroups(to, folded(x-p))
		to = writeGroups(to, folded(y-q))
		p, q = x, y
	}
	return to, true
}

// readSteps: bytes that are left over are not looked at.
func readSteps(from []byte, count int) ([]complex128, bool) {
	cells := make([]complex128, count)
	var ahead [2]int64
	for k := range cells {
		for part := range ahead {
			number, rest, ok := readGroups(from)
			if !ok {
				return nil, false
			}
			ahead[part] += unfolded(number)
			from = rest
		}
		cells[k] = complex(float64(ahead[0]), float64(ahead[1]))
	}
	return cells, true
}
