package prime_test

import (
	"math"
	"slices"
	"testing"

	"penumbra/api"
	"penumbra/sample"
)

// P15.1: lists that are written out, of which some have a grid.
func TestBackWrittenOut(t *testing.T) {
	for _, c := range []struct {
		l    [][]complex128
		want []complex128
	}{
		{[][]complex128{{0, 0}, {0, 0}, {0, 0}}, []complex128{0, 0, 0, 0}},
		{[][]complex128{{1, 0}, {1, 0}, {1, 0}}, []complex128{1, 0, 0, 0}},
		{[][]complex128{{1, 0}, {1, 0}, {0, 1}}, nil}, // half a cell
		{[][]complex128{{2, 0}, {1, 1}, {1, 1}}, []complex128{1, 1, 0, 0}},
		{[][]complex128{{1i, 1i}, {2i, 0}, {1i, 1i}}, []complex128{1i, 0, 0, 1i}},
		{[][]complex128{{1i, 1i}, {2i, 0}, {2i, 0}}, nil},
		{[][]complex128{{1 + 1i, 1i}, {1 + 2i, 0}, {1 + 1i, 1i}}, []complex128{1 + 1i, 0, 0, 1i}},
		{[][]complex128{{2, 2}, {2, 2}, {2, 2}}, []complex128{1, 1, 1, 1}},
		{[][]complex128{{2, 2}, {2, 2}, {4, 4}}, nil}, // cells of 2, whose lists are others
		{[][]complex128{{1, 1, 1}, {1, 1, 1}, {1, 1, 1}, {3, 0, 0}}, []complex128{1, 0, 0, 1, 0, 0, 1, 0, 0}},
		{[][]complex128{{1, 1, 1}, {1, 1, 1}, {1, 1, 1}, {2, 1, 0}}, nil},
		{[][]complex128{{1, 1, 1}, {0, 0, 3}, {1, 1, 1}, {1, 1, 1}}, []complex128{0, 1, 0, 0, 0, 1, 1, 0, 0}},
	} {
		if c.want == nil {
			clash(t, "written out", c.l)
			continue
		}
		leadsBack(t, c.l, api.Grid{N: len(c.l) - 1, Cells: c.want})
	}
}

// P15.1: one list may stand for several.
func TestBackOfOneMemory(t *testing.T) {
	for _, p := range primes() {
		list := slices.Repeat([]complex128{complex(float64(p), float64(-3*p))}, p)
		leadsBack(t, slices.Repeat([][]complex128{list}, p+1), sample.Filled(p, 1-3i))
	}
}

// key: the lists as numbers that a map can hold.
func key(l [][]complex128) [12]complex128 {
	var out [12]complex128
	copy(out[:], slices.Concat(l...))
	return out
}

// each: all lists of so many numbers from least to most.
func each(many, least, most int, do func(list []complex128)) {
	list := slices.Repeat([]complex128{complex(float64(least), 0)}, many)
	for {
		do(list)
		at := 0
		for at < many && real(list[at]) == float64(most) {
			list[at] = complex(float64(least), 0)
			at++
		}
		if at == many {
			return
		}
		list[at]++
	}
}

// P15.1: of small sides, all lists of small numbers: a grid comes back just if it is one of all there are, in either part.
func TestBackOfAll(t *testing.T) {
	for _, c := range []struct{ p, leastCell, mostCell, leastBin, mostBin int }{{2, -8, 8, -3, 3}, {3, -1, 2, 0, 1}} {
		p, found := c.p, 0
		grids := map[[12]complex128][]complex128{}
		each(p*p, c.leastCell, c.mostCell, func(cells []complex128) {
			if l := transform(api.Grid{N: p, Cells: cells}); small(l, c.leastBin, c.mostBin) {
				grids[key(l)] = slices.Clone(cells)
			}
		})
		each((p+1)*p, c.leastBin, c.mostBin, func(list []complex128) {
			l, turned := slices.Collect(slices.Chunk(list, p)), [][]complex128{}
			for _, one := range l {
				turned = append(turned, timesI(one))
			}
			cells, there := grids[key(l)]
			if !there {
				noBack(t, "small numbers", l, api.ErrClash)
				noBack(t, "small numbers", turned, api.ErrClash)
				return
			}
			found++
			leadsBack(t, l, api.Grid{N: p, Cells: cells})
			leadsBack(t, turned, api.Grid{N: p, Cells: timesI(cells)})
		})
		if found != len(grids) || found < 10 {
			t.Errorf("side %d: %d of %d grids are found", p, found, len(grids))
		}
	}
}

// small: are all numbers from least to most?
func small(l [][]complex128, least, most int) bool {
	return !slices.ContainsFunc(slices.Concat(l...), func(v complex128) bool { return real(v) < float64(least) || real(v) > float64(most) })
}

// timesI: the first parts as second ones.
func timesI(list []complex128) []complex128 {
	var out []complex128
	for _, v := range list {
		out = append(out, complex(0, real(v)))
	}
	return out
}

// P15.1: as many lists as make no prime, told ahead of all else.
func TestBackNoPrimes(t *testing.T) {
	noBack(t, "no list", nil, api.ErrPrime)
	noBack(t, "no list", [][]complex128{}, api.ErrPrime)
	for _, many := range append(noPrimes(), 69999) {
		if many < 0 || many > 70000 {
			continue
		}
		noBack(t, "no prime", make([][]complex128, many+1), api.ErrPrime)
		if many > 300 {
			continue
		}
		for _, v := range []complex128{0, 1, 0.5, complex(0, math.NaN())} {
			noBack(t, "no prime", filled(many, v), api.ErrPrime)
			noBack(t, "no prime", append(filled(many, v)[:many:many], nil), api.ErrPrime)
		}
	}
	for _, p := range []int{2, 3, 5, 61} { // one more or less than there must be
		l := forward(t, sample.Numbered(p))
		if !slices.Contains(primes(), p-1) {
			noBack(t, "one less", l[:p], api.ErrPrime)
		}
		if !slices.Contains(primes(), p+1) {
			noBack(t, "one more", append(l, l[0]), api.ErrPrime)
		}
	}
}

// P15.1: a list that is too short, too long or none, at every place.
func TestBackLengths(t *testing.T) {
	for _, p := range primes() {
		whole := transform(sample.Numbered(p))
		for m, list := range whole {
			for _, other := range [][]complex128{nil, {}, list[:p-1], list[1:], list[:1:1], append(slices.Clone(list), 0), append(slices.Clone(list), list...), make([]complex128, p-1), make([]complex128, p+1)} {
				if len(other) == p {
					t.Fatal("no such length")
				}
				noBack(t, "another length", with(whole, m, other), api.ErrBins)
			}
		}
		noBack(t, "all empty", make([][]complex128, p+1), api.ErrBins)
		noBack(t, "all too long", filled(p+1, 0)[:p+1], api.ErrBins)
	}
}

// noBins: what is no bin's value; of greater sides fewer, for there are many places.
func noBins(p int) []complex128 {
	if p <= 5 {
		return sample.NoBins()
	}
	minus := sample.MinusNought()
	some := []complex128{0.5, complex(7, -0.5), complex(minus, 0), complex(1, minus), api.MaxBin + 1, complex(0, -api.MaxBin-1), complex(math.NaN(), 0), complex(0, math.Inf(-1))}
	if p <= 31 {
		return some
	}
	return some[p%2*4 : p%2*4+4]
}

// P15.1: a number that is no bin's value, at every place, among lists of a grid and among others that no grid has.
func TestBackNoBins(t *testing.T) {
	for _, p := range primes() {
		for _, l := range [][][]complex128{transform(sample.Numbered(p)), added(filled(p, 1), p, 0, 1)} {
			for _, list := range l {
				for at, v := range list {
					for _, wrong := range noBins(p) {
						list[at] = wrong
						noBack(t, "no bin's value", l, api.ErrBins)
					}
					list[at] = v
				}
			}
		}
	}
}

// P15.1: a nought with a sign among lists that are a grid's but for that.
func TestBackSigns(t *testing.T) {
	minus := sample.MinusNought()
	for _, p := range primes() {
		l := filled(p, 0)
		leadsBack(t, l, sample.Filled(p, 0))
		for m := range l {
			for _, at := range someOf(p) {
				for _, v := range []complex128{complex(minus, 0), complex(0, minus), complex(minus, minus)} {
					l[m][at] = v
					noBack(t, "a nought with a sign", l, api.ErrBins)
				}
				l[m][at] = 0
			}
		}
	}
}

// P15.1: the greatest value that a bin has is one, at every place; but no grid has such a sum.
func TestBackGreatest(t *testing.T) {
	for _, p := range primes() {
		for _, v := range []complex128{api.MaxBin, -api.MaxBin, complex(0, api.MaxBin), complex(-api.MaxBin, api.MaxBin)} {
			clash(t, "all lists of the greatest", filled(p, v))
			for m := range p + 1 {
				for _, at := range someOf(p) {
					if p <= 13 || (m+at)%9 == 0 {
						noBack(t, "the greatest", added(filled(p, 0), m, at, v), api.ErrClash)
					}
				}
			}
		}
		// Their sum is far greater than a bin's value.
		l := filled(p, complex(api.MaxBin, -api.MaxBin))
		for m := range p {
			slices.Reverse(l[m])
		}
		clash(t, "and one is less", added(l, p, p-1, -1))
	}
}
