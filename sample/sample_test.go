package sample_test

import (
	"math"
	"testing"

	"penumbra/sample"
)

// The looks at memory must find what they look for.
func TestFaultsAreFound(t *testing.T) {
	x := []complex128{1, 2i, 3}
	fresh := func(list []complex128) []complex128 { return append([]complex128(nil), list...) }
	if sample.Changed(x, func(list []complex128) { fresh(list) }) || sample.Shared(x, fresh) != "" {
		t.Error("a fault is found where there is none")
	}
	if !sample.Changed(x, func(list []complex128) { list[0] = 5 }) || !sample.Changed(x, func(list []complex128) { _ = append(list, 7) }) {
		t.Error("a change is not found")
	}
	kept, long := fresh(x), fresh(x)
	for name, call := range map[string]func(list []complex128) []complex128{
		"the argument itself":     func(list []complex128) []complex128 { return list },
		"the room behind it":      func(list []complex128) []complex128 { return append(list, 1)[3:] },
		"one list for all":        func([]complex128) []complex128 { return kept },
		"room that holds another": func([]complex128) []complex128 { return long[:1] },
	} {
		if sample.Shared(x, call) == "" {
			t.Errorf("%s: not found", name)
		}
	}
	turn := make(chan complex128, 1)
	turn <- 0
	if sample.Alone(func() []complex128 {
		k := <-turn
		turn <- k + 1
		return []complex128{k}
	}) {
		t.Error("answers that differ are not found")
	}
}

// Numbers agree by their bits, NaNs with all NaNs.
func TestAgree(t *testing.T) {
	nan, other := math.NaN(), math.Float64frombits(0xfff0000000000001)
	if !sample.Agree(complex(1, nan), complex(1, other)) || sample.Agree(complex(0, 1), complex(sample.MinusNought(), 1)) || sample.Agree(1+2i, 2+1i) || sample.Agree(complex(nan, 0), 0) {
		t.Error("Agree")
	}
}
