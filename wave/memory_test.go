package wave_test

import (
	"testing"

	"penumbra/api"
	"penumbra/sample"
	"penumbra/wave"
)

func whole(y []complex128) ([]complex128, api.Errno) { return wave.Whole(y), api.OK }

func calls() map[string]call {
	return map[string]call{"Forward": wave.Forward, "Back": wave.Back, "Direct": wave.Direct, "Whole": whole}
}

// P3.5: what is handed in is not changed, its spare room neither, whatever is answered.
func TestNotChanged(t *testing.T) {
	for name, f := range calls() {
		for _, n := range append(lengths(), 0, 3, 7, 8192) {
			for i, x := range sample.Lists(max(n, 1)) {
				if sample.Changed(x[:n], func(list []complex128) { f(list) }) {
					t.Fatalf("%s changed what it was handed: %d numbers, list %d", name, n, i)
				}
			}
		}
	}
}

// P3.5: an answer is new memory, shared with no argument and no other answer.
func TestAnswersAreNew(t *testing.T) {
	for name, f := range calls() {
		for _, n := range lengths() {
			d := sample.Dice(n)
			with := sample.Shared(d.List(n, d.Near), func(list []complex128) []complex128 {
				y, _ := f(list)
				return y
			})
			if with != "" {
				t.Errorf("%s of %d numbers: the answer shares memory with %s", name, n, with)
			}
		}
	}
}

// P1, rule 5: calls at the same time do not show in each other's answers.
func TestAtTheSameTime(t *testing.T) {
	d := sample.Dice(6)
	x := d.List(256, d.Near)
	for name, f := range calls() {
		alone := sample.Alone(func() []complex128 {
			y, _ := f(x)
			return y
		})
		if !alone {
			t.Errorf("%s answers otherwise beside itself", name)
		}
	}
}
