package cx

import "strings"

const (
	partDigits = 16 // of a part's text
	digits     = "0123456789abcdef"
)

// textOf writes the digits by the table, so that none that leads is left out.
func textOf(bits [2]uint64) string {
	var out strings.Builder
	for _, word := range bits {
		for place := range partDigits {
			out.WriteByte(digits[word>>(60-4*place)&15])
		}
	}
	return out.String()
}

// readBits takes only what textOf writes: neither great letters nor another length.
func readBits(s string) ([2]uint64, bool) {
	var bits [2]uint64
	if len(s) != len(bits)*partDigits {
		return bits, false
	}
	for i := range len(s) {
		digit := strings.IndexByte(digits, s[i])
		if digit < 0 {
			return [2]uint64{}, false
		}
		bits[i/partDigits] = bits[i/partDigits]<<4 | uint64(digit)
	}
	return bits, true
}
