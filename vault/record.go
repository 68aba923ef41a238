package vault

import (
	"penumbra/api"
	"penumbra/pack"
)

// The kinds of bodies, by their first byte.
const (
	whole   = 0 // the slice itself
	changed = 1 // what is unlike in it and the slice ahead
)

const (
	wordBytes = 4
	headBytes = 2 * wordBytes // the body's length and its sum
)

// bodyOf: how a slice is written behind the slice ahead, which has no side where there is none.
func bodyOf(slice, ahead api.Grid) ([]byte, api.Errno) {
	kind := byte(whole)
	packed, err := pack.Pack(slice)
	if err != api.OK {
		return nil, err
	}
	// There is no change from a slice of another side, or of none.
	if unlike, err := pack.Change(slice, ahead); err == api.OK {
		if short, _ := pack.Pack(unlike); len(short) < len(packed) {
			kind, packed = changed, short
		}
	}
	return append([]byte{kind}, packed...), api.OK
}

// headOf: what a record has ahead of its body.
func headOf(body []byte) []byte {
	return writeWord(writeWord(nil, uint32(len(body))), Sum(body))
}

// writeWord: four bytes, the greatest first.
func writeWord(to []byte, w uint32) []byte {
	return append(to, byte(w>>24), byte(w>>16), byte(w>>8), byte(w))
}

// readWord: back. There must be as many bytes.
func readWord(from []byte) uint32 {
	var w uint32
	for _, b := range from[:wordBytes] {
		w = w<<8 | uint32(b)
	}
	return w
}
