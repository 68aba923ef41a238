package bound_test

import (
	"slices"
	"testing"

	"penumbra/api"
	"penumbra/bound"
	"penumbra/sample"
)

// some: of each kind, with faults and without, small enough to be gone through many times.
func some() []job {
	d := sample.Dice(203)
	out := []job{{}, {n: 17, lo: filled(289, 0), hi: filled(289, 9)}, {n: 2, lo: filled(4, 0), hi: filled(4, 256)}, {2, make([]api.Proj, 65), filled(4, 0), filled(4, 9)}, stairs(3, 20), stairs(8, 128), {1, []api.Proj{sample.Proj(1, 0, 5)}, []int{7}, []int{3}}}
	for _, n := range []int{1, 2, 5} {
		lo, hi := wide(n)
		for _, dirs := range few(&d) {
			levels := aGrid(n, &d)
			low, high := around(levels, &d, 90)
			out = append(out, job{n, seen(n, levels, dirs), low, high}, job{n, seen(n, levels, dirs), lo, hi}, job{n, off(seen(n, levels, dirs), &d, 1), lo, hi})
		}
		for i, flaw := range sample.SinoFlaws() {
			if i%67 == 0 && len(flaw.Sino.Projs) < 70 {
				out = append(out, job{n, flaw.Sino.Projs, lo, hi}, job{n, blank(flaw.Sino.Projs), lo, hi})
			}
		}
	}
	return out
}

// roomy: the list with room behind it that holds something, and the whole of that memory.
func roomy(list []int) (same, all []int) { return sample.Roomy(list, 77, -5, 1<<40, 0, 3) }

// kept: does the call leave both lists as they are, with the room behind them?
func kept(lo, hi []int, call func(lo, hi []int)) bool {
	low, lows := roomy(lo)
	high, highs := roomy(hi)
	before := slices.Concat(lows, highs)
	call(low, high)
	return slices.Equal(slices.Concat(lows, highs), before)
}

// P19.5: what is handed in is not changed: neither of the lists of bounds nor that of projections, nor a direction, nor bins, nor the room behind any of these, whatever is answered.
func TestNotChanged(t *testing.T) {
	count := map[api.Errno]int{}
	for _, j := range some() {
		well := kept(j.lo, j.hi, func(lo, hi []int) {
			changed := sample.ChangedSino(api.Sino{N: j.n, Projs: j.projs}, func(same api.Sino) {
				_, _, e := bound.Run(j.n, same.Projs, lo, hi)
				count[e]++
			})
			if changed {
				t.Fatalf("%v: the projections are changed", j)
			}
			bound.Certain(lo, hi)
			bound.Width(lo, hi)
		})
		if !well {
			t.Fatalf("%v: the bounds are changed", j)
		}
	}
	for _, e := range []api.Errno{api.OK, api.ErrArg, api.ErrLong, api.ErrDir, api.ErrBins, api.ErrClash, api.ErrFew} {
		if count[e] == 0 {
			t.Errorf("none of them is told error %d", e)
		}
	}
}

// wipe writes over a list and the room behind it.
func wipe(list []int) {
	list = list[:cap(list)]
	for i := range list {
		list[i] = -999
	}
}

// apart: do both lists of an answer share no memory with each other, with another answer, or with lists that were handed in?
func apart(call func() (lo, hi []int), given ...[]int) bool {
	before := slices.Concat(given...)
	lo, hi := call()
	low, high := slices.Clone(lo), slices.Clone(hi)
	otherLo, otherHi := call()
	wipe(lo)
	if !slices.Equal(hi, high) {
		return false
	}
	wipe(hi)
	nextLo, nextHi := call()
	return slices.Equal(otherLo, low) && slices.Equal(otherHi, high) && slices.Equal(nextLo, low) && slices.Equal(nextHi, high) && slices.Equal(slices.Concat(given...), before)
}

// P19.5: what Run and Wide tell shares no memory with what was handed in, nor with another answer, nor one list with the other; also where no sweep changes anything, and where both lists that are handed in are one.
func TestBoundsAreNew(t *testing.T) {
	for _, j := range some() {
		if told(j, 512).e != api.OK {
			continue
		}
		low, lows := roomy(j.lo)
		high, highs := roomy(j.hi)
		given := job{j.n, j.projs, low, high}
		if !apart(func() (lo, hi []int) { return run(t, given) }, lows, highs) {
			t.Fatalf("%v: the bounds share memory", j)
		}
		lo, hi := run(t, given)
		wantLo, wantHi := slices.Clone(lo), slices.Clone(hi)
		wipe(lows)
		wipe(highs)
		if !slices.Equal(lo, wantLo) || !slices.Equal(hi, wantHi) {
			t.Fatalf("%v: the bounds share memory with those that were handed in", j)
		}
	}
	for n := 1; n <= 16; n++ {
		if !apart(func() (lo, hi []int) { lo, hi, _ = bound.Wide(n); return lo, hi }) {
			t.Errorf("Wide of %d shares memory", n)
		}
		one := filled(n*n, 7)
		for _, projs := range [][]api.Proj{nil, seen(n, one, sample.Dirs())} {
			if !apart(func() (lo, hi []int) { return run(t, job{n, projs, one, one}) }, one) {
				t.Errorf("side %d: what is told of one list shares memory", n)
			}
		}
	}
}

// P19.5: what Certain tells is new memory too.
func TestCertainIsNew(t *testing.T) {
	for _, many := range []int{1, 4, 256} {
		first, second := bound.Certain(filled(many, 3), filled(many, 3)), bound.Certain(filled(many, 3), filled(many, 3))
		for i := range first[:cap(first)] {
			first[:cap(first)][i] = false
		}
		if slices.Contains(second, false) || slices.Contains(bound.Certain(filled(many, 3), filled(many, 3)), false) {
			t.Errorf("%d places: shared with another answer", many)
		}
	}
}

// P1, rule 5: calls at the same time do not show in each other's answers.
func TestAtTheSameTime(t *testing.T) {
	d := sample.Dice(204)
	low, high := wide(13)
	j := job{13, seen(13, aGrid(13, &d), sample.Dirs()), low, high}
	numbers := func(lists ...[]int) []complex128 {
		var out []complex128
		for _, v := range slices.Concat(lists...) {
			out = append(out, complex(float64(v), 0))
		}
		return out
	}
	calls := map[string]func() []complex128{
		"Run":  func() []complex128 { lo, hi, _ := bound.Run(j.n, j.projs, j.lo, j.hi); return numbers(lo, hi) },
		"Wide": func() []complex128 { lo, hi, _ := bound.Wide(13); return numbers(lo, hi) },
		"Width": func() []complex128 {
			return numbers([]int{bound.Width(j.lo, j.hi), len(bound.Certain(j.lo, j.hi))})
		},
	}
	for name, call := range calls {
		if !sample.Alone(call) {
			t.Errorf("%s answers otherwise beside itself", name)
		}
	}
}
