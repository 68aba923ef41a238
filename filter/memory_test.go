package filter_test

import (
	"math"
	"slices"
	"testing"

	"penumbra/api"
	"penumbra/filter"
	"penumbra/sample"
)

// P16.4: what is handed in is not changed, its spare room neither, whatever is answered.
func TestNotChanged(t *testing.T) {
	for _, n := range append(counts(), noCounts()...) {
		for i, x := range sample.Lists(max(n, 1)) {
			for _, kind := range append(kinds(), 0, 4) {
				if sample.Changed(x[:n], func(list []complex128) { filter.Apply(list, kind) }) {
					t.Fatalf("%d bins, list %d, kind %d: changed", n, i, kind)
				}
			}
		}
	}
}

// P16.4: an answer is new memory, shared with no argument and no other answer.
func TestAnswersAreNew(t *testing.T) {
	for _, n := range counts() {
		d := sample.Dice(n)
		for _, kind := range kinds() {
			shares := sample.Shared(d.List(n, d.Near), func(list []complex128) []complex128 { return filtered(t, list, kind) })
			if shares != "" {
				t.Fatalf("%d bins, kind %d: the answer shares memory with %s", n, kind, shares)
			}
		}
	}
}

// P16.4: weights too are new with each call.
func TestWeightsAreNew(t *testing.T) {
	for _, n := range lengths() {
		for _, kind := range kinds() {
			first, second := weights(t, n, kind), weights(t, n, kind)
			want := slices.Clone(first)
			room := first[:cap(first)]
			for k := range room {
				room[k] = math.NaN()
			}
			if !slices.Equal(second, want) || !slices.Equal(weights(t, n, kind), want) {
				t.Fatalf("length %d, kind %d: two answers are one memory", n, kind)
			}
		}
	}
}

// P16.4: behind an answer there is nothing: what is added to it, and to it again, shows nowhere else.
func TestNothingBehind(t *testing.T) {
	for _, n := range counts() {
		d := sample.Dice(n)
		x := d.List(n, d.Near)
		for _, kind := range kinds() {
			y := filtered(t, x, kind)
			if cap(y) != n {
				t.Fatalf("%d bins, kind %d: there is room for %d", n, kind, cap(y))
			}
			longer := append(y, 1)
			other := append(y, 2i)
			longer[0] = complex(math.NaN(), 7)
			if longer[n] != 1 || other[n] != 2i || !slices.Equal(sample.Bits(y), sample.Bits(filtered(t, x, kind))) {
				t.Fatalf("%d bins, kind %d: what is added shows elsewhere", n, kind)
			}
		}
	}
}

// P1, rule 5: calls at the same time do not show in each other's answers.
func TestAtTheSameTime(t *testing.T) {
	d := sample.Dice(8)
	x := d.List(100, d.Near)
	for _, kind := range kinds() {
		if !sample.Alone(func() []complex128 { return filtered(t, x, kind) }) {
			t.Errorf("kind %d: bins are filtered otherwise beside themselves", kind)
		}
		weighed := func() []complex128 {
			var out []complex128
			w, _ := filter.Weights(api.MaxLen, kind)
			for _, x := range w {
				out = append(out, complex(x, 0))
			}
			return out
		}
		if !sample.Alone(weighed) {
			t.Errorf("kind %d: weights are otherwise beside themselves", kind)
		}
	}
}
