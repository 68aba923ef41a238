package wave_test

import (
	"math"
	"slices"
	"testing"

	"penumbra/api"
	"penumbra/sample"
	"penumbra/wave"
)

func whole(y []complex128) ([]complex128, api.Errno) { return wave.Whole(y), api.OK }

func calls() map[string]call {
	return map[string]call{"Forward": wave.Forward, "Back": wave.Back, "Direct": wave.Direct, "Whole": whole}
}

// P3.5: what is handed in is not changed, its spare room neither, whatever is answered.
func TestNotChanged(t *testing.T) {
	for name, f := range calls() {
		for _, n := range append(lengths(), 0, 3, 7, 8192) {
			for i, x := range sample.Lists(max(n, 1)) {
				list, all := sample.Spare(x[:n])
				before := sample.Bits(all)
				f(list)
				if !slices.Equal(sample.Bits(all), before) {
					t.Fatalf("%s changed what it was handed: %d numbers, list %d", name, n, i)
				}
			}
		}
	}
}

// P3.5: an answer is new memory: writing all over it shows neither in the argument nor in another answer, and the next call answers the same.
func TestAnswersAreNew(t *testing.T) {
	for name, f := range calls() {
		for _, n := range lengths() {
			d := sample.Dice(n)
			list, all := sample.Spare(d.List(n, d.Near))
			before := sample.Bits(all)
			first, e := f(list)
			other, _ := f(list)
			want := sample.Bits(first)
			first = first[:cap(first)]
			for k := range first {
				first[k] = complex(math.NaN(), 7)
			}
			again, e2 := f(list)
			if e != e2 || !slices.Equal(sample.Bits(other), want) || !slices.Equal(sample.Bits(again), want) {
				t.Fatalf("%s of %d numbers: an answer shows in another one", name, n)
			}
			if !slices.Equal(sample.Bits(all), before) {
				t.Fatalf("%s of %d numbers: the answer shares memory with the argument", name, n)
			}
			for j := range all { // and the other way about: writing over the argument shows in no answer
				all[j] = complex(7, math.NaN())
			}
			if !slices.Equal(sample.Bits(other), want) {
				t.Fatalf("%s of %d numbers: the argument shows in the answer", name, n)
			}
		}
	}
}

// P1, rule 5: calls at the same time do not show in each other's answers.
func TestAtTheSameTime(t *testing.T) {
	d := sample.Dice(6)
	x := d.List(256, d.Near)
	for name, f := range calls() {
		want, _ := f(x)
		answers := make(chan []complex128)
		for range 8 {
			go func() {
				y, _ := f(x)
				answers <- y
			}()
		}
		for range 8 {
			if !slices.Equal(sample.Bits(<-answers), sample.Bits(want)) {
				t.Errorf("%s answers otherwise beside itself", name)
			}
		}
	}
}
