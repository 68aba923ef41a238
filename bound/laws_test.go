package bound_test

import (
	"slices"
	"testing"

	"penumbra/api"
	"penumbra/bound"
	"penumbra/ray"
	"penumbra/sample"
)

// P19.2: levels within bounds, with their own projections: the bounds that are told have the levels within them, and are within those that were handed in.
func TestSound(t *testing.T) {
	d := sample.Dice(196)
	certain, open := 0, 0
	for n := 1; n <= 16; n++ {
		for _, dirs := range few(&d) {
			for _, far := range []int{0, 1, 7, 60, 255} {
				levels := aGrid(n, &d)
				low, high := around(levels, &d, far)
				if far == 255 {
					low, high = wide(n)
				}
				j := job{n, seen(n, levels, dirs), low, high}
				lo, hi := run(t, j)
				if !within(levels, levels, lo, hi) || !within(lo, hi, low, high) {
					t.Fatalf("%v: %v is within %v to %v, and told is %v to %v", j, levels, low, high, lo, hi)
				}
				if far > 0 && slices.Contains(bound.Certain(lo, hi), false) {
					open++
				} else if far > 0 {
					certain++
				}
			}
		}
	}
	if certain < 300 || open < 300 {
		t.Errorf("the samples are too much alike: %d are certain, %d are not", certain, open)
	}
}

// P19.2: likewise with what rays tell of them.
func TestSoundByRays(t *testing.T) {
	d := sample.Dice(197)
	for n := 1; n <= 16; n++ {
		levels := aGrid(n, &d)
		s, e := ray.All(gridOf(n, levels), sample.Dirs(), 3)
		if e != api.OK {
			t.Fatal(e)
		}
		low, high := wide(n)
		lo, hi := run(t, job{n, s.Projs, low, high})
		if !within(levels, levels, lo, hi) {
			t.Fatalf("side %d: %v is not within %v to %v", n, levels, lo, hi)
		}
	}
}

// P19.2: every grid of side 2 with levels from 0 to 3 is within what is told of it, and so is each other one that has the same projections.
func TestSoundOfAllSmallOnes(t *testing.T) {
	all := [][]int{}
	for k := range 256 {
		all = append(all, []int{k & 3, k >> 2 & 3, k >> 4 & 3, k >> 6})
	}
	for _, dirs := range [][]api.Dir{{{P: 1}}, {{P: 1}, {Q: 1}}, {{P: 1, Q: 1}, {P: -1, Q: 1}}, {{Q: 1}, {P: 1, Q: 1}}, {{P: -2, Q: 1}}} {
		for _, levels := range all {
			j := job{2, seen(2, levels, dirs), filled(4, 0), filled(4, 3)}
			lo, hi := run(t, j)
			for _, other := range all {
				same := sample.SameSino(api.Sino{Projs: seen(2, other, dirs)}, api.Sino{Projs: j.projs})
				if same && !within(other, other, lo, hi) {
					t.Fatalf("%v, of %v: %v is not within %v to %v", j, levels, other, lo, hi)
				}
			}
		}
	}
}

// P19.3: with more projections behind the others the bounds are within those that the others lead to: one after the other.
func TestMoreAreNeverWorse(t *testing.T) {
	d := sample.Dice(198)
	narrower := 0
	for n := 1; n <= 16; n++ {
		for _, from := range [][]api.Dir{sample.Short(), sample.Dirs(), sample.Short()[:5], sample.Wheel()} {
			for _, far := range []int{3, 50, 255} {
				levels := aGrid(n, &d)
				low, high := around(levels, &d, far)
				projs := seen(n, levels, d.Picked(from, min(len(from), 8)))
				lo, hi := run(t, job{n, nil, low, high})
				for many := 1; many <= len(projs); many++ {
					j := job{n, projs[:many], low, high}
					nextLo, nextHi := run(t, j)
					if !within(nextLo, nextHi, lo, hi) {
						t.Fatalf("%v: %v to %v is not within %v to %v", j, nextLo, nextHi, lo, hi)
					}
					if bound.Width(nextLo, nextHi) < bound.Width(lo, hi) {
						narrower++
					}
					lo, hi = nextLo, nextHi
				}
			}
		}
	}
	if narrower < 300 {
		t.Errorf("they are narrower only %d times", narrower)
	}
}

// tried: what Run tells, and is it OK?
func tried(j job) (answer, bool) {
	lo, hi, e := bound.Run(j.n, j.projs, j.lo, j.hi)
	return answer{lo: lo, hi: hi, e: e}, e == api.OK
}

// loose: bounds and bins that need not be a grid's, though many of them are not contradicted.
func loose(n int, d *sample.Dice) job {
	dirs := d.Picked(sample.Short(), 1+int(d.Word()%4))
	levels := aGrid(n, d)
	low, high := around(levels, d, 1+int(d.Word()%200))
	return job{n, off(seen(n, levels, dirs), d, int(d.Word()%3)), low, high}
}

// P19.3: likewise with bins that fit no grid, wherever both are OK.
func TestMoreAreNeverWorseWithoutAGrid(t *testing.T) {
	d := sample.Dice(199)
	both := 0
	for k := range 6000 {
		j := loose(1+k%8, &d)
		for many := range j.projs {
			first, well := tried(job{j.n, j.projs[:many], j.lo, j.hi})
			second, ok := tried(j)
			if !well || !ok {
				continue
			}
			both++
			if !within(second.lo, second.hi, first.lo, first.hi) {
				t.Fatalf("%v, the first %d: %v to %v is not within %v to %v", j, many, second.lo, second.hi, first.lo, first.hi)
			}
		}
	}
	if both < 3000 {
		t.Errorf("both are OK only %d times", both)
	}
}

// P19.4: from what was told on, the same is told again.
func TestDone(t *testing.T) {
	d := sample.Dice(200)
	drawn := 0
	for k := range 3000 {
		j := loose(1+k%16, &d)
		first, ok := tried(j)
		if !ok {
			continue
		}
		check(t, job{j.n, j.projs, first.lo, first.hi}, first)
		if !slices.Equal(first.lo, j.lo) || !slices.Equal(first.hi, j.hi) {
			drawn++
		}
	}
	for n := 1; n <= 16; n++ {
		for _, dirs := range few(&d) {
			low, high := wide(n)
			j := job{n, seen(n, aGrid(n, &d), dirs), low, high}
			lo, hi := run(t, j)
			check(t, job{n, j.projs, lo, hi}, answer{lo: lo, hi: hi})
		}
	}
	if drawn < 1000 {
		t.Errorf("drawn together only %d times", drawn)
	}
}

// P19.4: the order of the projections doesn't matter: all orders of small lists.
func TestAllOrders(t *testing.T) {
	d := sample.Dice(201)
	for n := 1; n <= 16; n++ {
		for many := 2; many <= 4; many++ {
			dirs := d.Picked(sample.Short(), many)
			levels := aGrid(n, &d)
			low, high := around(levels, &d, 100)
			lo, hi := run(t, job{n, seen(n, levels, dirs), low, high})
			for _, order := range sample.Orders(dirs) {
				check(t, job{n, seen(n, levels, order), low, high}, answer{lo: lo, hi: hi})
			}
		}
	}
}

// P19.4: likewise other orders of all lists, and of bins that fit no grid, wherever both orders are OK.
func TestOtherOrders(t *testing.T) {
	d := sample.Dice(202)
	both := 0
	for k := range 3000 {
		j := loose(1+k%16, &d)
		first, well := tried(j)
		turned := job{j.n, ordered(j.projs, &d), j.lo, j.hi}
		second, ok := tried(turned)
		if !well || !ok {
			continue
		}
		both++
		check(t, turned, first)
		check(t, j, second)
	}
	for n := 1; n <= 16; n++ {
		for _, dirs := range few(&d) {
			low, high := wide(n)
			j := job{n, seen(n, aGrid(n, &d), dirs), low, high}
			lo, hi := run(t, j)
			check(t, job{n, ordered(j.projs, &d), low, high}, answer{lo: lo, hi: hi})
		}
	}
	if both < 1000 {
		t.Errorf("both are OK only %d times", both)
	}
}
