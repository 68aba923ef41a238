package wave_test

import (
	"penumbra/api"
	"penumbra/sample"
)

var minus = sample.MinusNought()

// lengths: every one there is.
func lengths() []int {
	var out []int
	for n := 1; n <= api.MaxLen; n *= 2 {
		out = append(out, n)
	}
	return out
}

// wrong: no lengths.
func wrong() []int {
	out := []int{0, 2 * api.MaxLen, 4 * api.MaxLen, 1 << 16}
	for n := range 2 * api.MaxLen {
		if n&(n-1) != 0 && (n < 70 || n%61 == 0 || (n+1)&n == 0 || (n-1)&(n-2) == 0) {
			out = append(out, n)
		}
	}
	return out
}
