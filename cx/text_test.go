package cx_test

import (
	"fmt"
	"math"
	"strings"
	"testing"

	"penumbra/api"
	"penumbra/cx"
)

// P1.1: Text and Read as the chapter tells them.
func TestText(t *testing.T) {
	for _, a := range numbers() {
		if want := fmt.Sprintf("%016x%016x", bits(a).p, bits(a).q); cx.Text(a) != want {
			t.Errorf("Text(%v): %q, not %q", a, cx.Text(a), want)
		}
	}
	for s, a := range map[string]complex128{
		"3ff00000000000000000000000000000": 1,
		"00000000000000003ff0000000000000": 1i,
		"8000000000000000c008000000000000": complex(minus, -3),
		"7ff0000000000000fff0000000000000": complex(math.Inf(1), math.Inf(-1)),
		"00000000000000010000000000000000": 0x1p-1074,
	} {
		if cx.Text(a) != s {
			t.Errorf("Text(%v): %q, not %q", a, cx.Text(a), s)
		}
		if b, e := cx.Read(s); e != api.OK || bits(b) != bits(a) {
			t.Errorf("Read(%q): %v, %d", s, b, e)
		}
	}
}

// P1.4: both ways round, NaNs with their bits.
func TestTextAndRead(t *testing.T) {
	check := func(a complex128) {
		s := cx.Text(a)
		b, e := cx.Read(s)
		if e != api.OK || bits(b) != bits(a) {
			t.Errorf("Read(Text(%x)): %x, %d", bits(a), bits(b), e)
		}
		if cx.Text(b) != s {
			t.Errorf("Text(Read(%q)): %q", s, cx.Text(b))
		}
	}
	for _, a := range numbers() {
		check(a)
	}
	d := dice{5}
	for range 5000 {
		check(d.number())
	}
}

// P1.1: texts that no number has; beside the error stands nought.
func TestReadWrong(t *testing.T) {
	one := "3ff00000000000000000000000000000"
	wrong := []string{"", "0", "3FF0", "3ff0", one[1:], one + "0", one + "\n", " " + one[1:], one[:31] + " ", strings.ToUpper(one), "+" + one[1:], "-" + one[1:], "0x" + one[2:], "0X" + one[2:], one[:16] + "_" + one[17:], one[:15] + "," + one[16:], one + one, strings.Repeat("\x00", 32), strings.Repeat("é", 16), strings.Repeat("é", 32), strings.Repeat("٣", 32), strings.Repeat("\xff", 32)}
	for _, s := range wrong {
		if a, e := cx.Read(s); e != api.ErrText || bits(a) != bits(0) {
			t.Errorf("Read(%q): %v, %d", s, a, e)
		}
	}
	for place := range 32 {
		for c := range 256 {
			s := one[:place] + string([]byte{byte(c)}) + one[place+1:]
			a, e := cx.Read(s)
			if strings.IndexByte("0123456789abcdef", byte(c)) < 0 {
				if e != api.ErrText || bits(a) != bits(0) {
					t.Errorf("Read(%q): %v, %d", s, a, e)
				}
			} else if e != api.OK || cx.Text(a) != s {
				t.Errorf("Read(%q): %v, %d", s, a, e)
			}
		}
	}
	for n := range 70 {
		if _, e := cx.Read(strings.Repeat("a", n)); (e == api.OK) != (n == 32) {
			t.Errorf("Read of %d digits: %d", n, e)
		}
	}
}
