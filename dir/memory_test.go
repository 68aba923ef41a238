package dir_test

import (
	"slices"
	"testing"

	"penumbra/api"
	"penumbra/dir"
	"penumbra/sample"
)

// P6.4: a list that is handed in is not changed, its spare room neither, whatever is answered.
func TestNotChanged(t *testing.T) {
	lists := [][]api.Dir{nil, {}, {{P: 1}}, sample.Dirs(), forms(16), sample.NoDirs(), append(sample.Dirs(), sample.Dirs()...), append(sample.Dirs(), sample.NoDirs()...)}
	backwards := forms(16) // one that isn't in order
	slices.Reverse(backwards)
	for _, list := range append(lists, backwards) {
		for _, n := range []int{0, 1, 3, 64, 65} {
			all := append(slices.Clone(list), api.Dir{P: -16, Q: 1}, api.Dir{P: 7, Q: -7}, api.Dir{P: 1})
			before := slices.Clone(all)
			dir.Katz(n, all[:len(list)])
			if !slices.Equal(all, before) {
				t.Fatalf("side %d: %v has become %v", n, before, all)
			}
		}
	}
}

// P6.4: answers are new memory: what is written over one shows in no other one, of before or of later.
func TestAnswersAreNew(t *testing.T) {
	for k := 1; k <= 16; k++ {
		alone(t, "All", api.Dir{P: 99, Q: -99}, func() []api.Dir {
			all, _ := dir.All(k)
			return all
		})
	}
	for _, n := range sample.Sides() {
		for _, d := range sample.Dirs() {
			for bin := 0; bin < lines(n, d).bins; bin += 1 + n {
				alone(t, "Line", api.Cell{X: -1, Y: 99}, func() []api.Cell {
					cells, _ := dir.Line(n, d, bin)
					return cells
				})
			}
		}
	}
}

// alone: is the answer alone in its memory? It is written over, with the room behind it.
func alone[T comparable](t *testing.T, name string, other T, call func() []T) {
	t.Helper()
	first, second := call(), call()
	want := slices.Clone(first)
	first = first[:cap(first)]
	for j := range first {
		first[j] = other
	}
	if !slices.Equal(second, want) || !slices.Equal(call(), want) {
		t.Fatalf("%s: two answers share memory", name)
	}
}

// P1, rule 5: calls at the same time do not show in each other's answers.
func TestAtTheSameTime(t *testing.T) {
	list := forms(16)
	done := make(chan bool)
	for k := 1; k <= 8; k++ {
		go func() {
			all, _ := dir.All(k + 8)
			enough, _ := dir.Katz(64, list[:k])
			cells, _ := dir.Line(64, api.Dir{P: 1, Q: 1}, 63+k)
			across, down := sums(list[:k])
			done <- slices.Equal(all, forms(k+8)) && enough == (max(across, down) >= 64) && len(cells) == 64-k
		}()
	}
	for range 8 {
		if !<-done {
			t.Error("a call answers otherwise beside others")
		}
	}
}
