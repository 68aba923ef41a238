package cx_test

import (
	"fmt"
	"math"
	"testing"

	"penumbra/cx"
)

// all: what every call answers to the same arguments, as a text.
func all(a, b complex128, k int, s string) string {
	n, ok := cx.Narrow(a)
	r, e := cx.Read(s)
	return fmt.Sprint(cx.Same(a, b), cx.Plain(a), cx.Add(a, b), cx.Sub(a, b), cx.Mul(a, b), cx.Conj(a), cx.Turn(a, k), cx.Scale(a, k), cx.Size(a), cx.Far(a, b), cx.Whole(a, k), n, ok, cx.Text(a), r, e)
}

// P1, rules 1, 5 and 6: at any bits and any int every call ends without a panic, and answers the same again.
func TestAnyArguments(t *testing.T) {
	d := dice{6}
	ints := append(powers(), math.MinInt32, math.MaxInt32)
	for i := range 3000 {
		a, b, k := d.number(), d.number(), int(d.Word())
		text := make([]byte, d.Word()%40)
		for j := range text {
			text[j] = byte(d.Word())
		}
		s := string(text)
		if i%2 == 0 {
			k = ints[i/2%len(ints)]
			s = cx.Text(b)
		}
		first := all(a, b, k, s)
		all(b, a, ^k, s+s)
		if again := all(a, b, k, s); again != first {
			t.Errorf("%v, %v, %d, %q: %s, then %s", a, b, k, s, first, again)
		}
	}
}
