package pack

import "math/bits"

// A word is the bits of a part.
type word interface{ uint32 | uint64 }

func bytesOf[W word]() int { return bits.Len64(uint64(^W(0))) / 8 }

// writeWord: the bytes, the greatest first.
func writeWord[W word](to []byte, w W) []byte {
	for k := bytesOf[W]() - 1; k >= 0; k-- {
		to = append(to, byte(w>>(8*k)))
	}
	return to
}

// readWord: back, and what stands behind it. There must be as many bytes.
func readWord[W word](from []byte) (W, []byte) {
	var w W
	size := bytesOf[W]()
	for _, b := range from[:size] {
		w = w<<8 | W(b)
	}
	return w, from[size:]
}

// readParts: the numbers whose parts' words these bytes are, no fewer and no more.
func readParts[W word](from []byte, count int, valueOf func(W) float64) ([]complex128, bool) {
	if len(from) != 2*count*bytesOf[W]() {
		return nil, false
	}
	cells := make([]complex128, count)
	for k := range cells {
		var p, q W
		p, from = readWord[W](from)
		q, from = readWord[W](from)
		cells[k] = complex(valueOf(p), valueOf(q))
	}
	return cells, true
}

// The lowest seven bits of a byte are its group, the highest tells whether more follow.
const (
	groupBits = 7
	more      = 1 << groupBits
)

func writeGroups(to []byte, number uint64) []byte {
	for ; number >= more; number >>= groupBits {
		to = append(to, byte(number)|more)
	}
	return append(to, byte(number))
}

// readGroups: back, and what stands behind them; false where they have no end. What a uint64 has no room for is dropped, so more groups than will do, and numbers that are too great, are read as others.
func readGroups(from []byte) (number uint64, rest []byte, ok bool) {
	for k, b := range from {
		number |= uint64(b&^more) << (groupBits * k)
		if b < more {
			return number, from[k+1:], true
		}
	}
	return 0, nil, false
}

// folded: differences below 0 stand between the others, so that small ones either way are small numbers.
func folded(d int64) uint64 {
	if d >= 0 {
		return uint64(2 * d)
	}
	return uint64(-2*d - 1)
}

func unfolded(number uint64) int64 {
	half := int64(number / 2)
	if number%2 == 0 {
		return half
	}
	return -half - 1
}
