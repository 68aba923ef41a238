package prime_test

import (
	"testing"

	"penumbra/api"
	"penumbra/sample"
)

// P15.1: lists that don't add up alike: one number off, in either part, in every list; by so much, too, that each cell comes out whole.
func TestClashOfSums(t *testing.T) {
	for _, p := range primes() {
		whole, square := float64(p), float64(p*p)
		for k, more := range []complex128{1, -1i, 1 + 1i, complex(whole, 0), complex(0, -whole), complex(-whole, whole), complex(square, 0), complex(0, square)} {
			l := transform(sample.Grids(p)[k%6])
			for m := range l {
				for _, at := range someOf(p) {
					if p > 13 && (m+at+k)%7 != 0 {
						continue
					}
					wrong := added(l, m, at, more)
					if alike(wrong) {
						t.Fatal("they add up alike")
					}
					noBack(t, "one number off", wrong, api.ErrClash)
				}
			}
		}
	}
}

// P15.1: cells that are a sound grid's come out, but they have other lists.
func TestClashOfOtherLists(t *testing.T) {
	for _, p := range primes() {
		whole := float64(p)
		for k, more := range []complex128{complex(whole, 0), complex(0, -whole), complex(-2*whole, whole)} {
			l := transform(sample.Grids(p)[1+k])
			cases := [][][]complex128{
				added(l, 1, p-1, more), added(l, p, 0, more), added(l, 0, p/2, more), // one list more than the others
				added(added(l, 1, 0, more), p, p-1, -more), // one more, one less
				added(added(l, 0, 0, more), 1, 0, more),    // two more
			}
			each := l
			for at := range p {
				each = added(each, p-1, at, more)
			}
			for m := range p { // all but the last one
				l = added(l, m, 0, more)
			}
			for _, wrong := range append(cases, each, l) {
				g, rests := wayBack(wrong)
				if rests > 0 || tooGreat(g) || alike(wrong) {
					t.Fatalf("side %d: the cells that come out are none", p)
				}
				clash(t, "other lists", wrong)
			}
		}
	}
}

// moved: so much taken from one place of a list to another, so that it adds up to the same.
func moved(l [][]complex128, m, from, to int, much complex128) [][]complex128 {
	return added(added(l, m, from, -much), m, to, much)
}

// P15.1: lists that add up alike, but the division has a rest, in either part, the least and the greatest rest among them; where there is none, it is a grid.
func TestClashOfRests(t *testing.T) {
	for _, p := range primes() {
		l := transform(sample.Grids(p)[3])
		for k := 1; k <= p; k++ {
			if p > 13 && k > 2 && k < p-2 && k != p/2 {
				continue
			}
			for j, much := range []complex128{complex(float64(k), 0), complex(0, float64(k)), complex(float64(-k), float64(p)), complex(float64(p), float64(-k))} {
				m, from, to := (k*5+j)%(p+1), (k+j)%p, (k+j+1)%p
				other := moved(l, m, from, to, much)
				if !alike(other) {
					t.Fatal("they don't add up alike")
				}
				if k < p {
					clash(t, "a rest", other)
					continue
				}
				want, e := solved(other)
				leadsBack(t, other, right(t, want, e))
			}
		}
	}
}

// P15.1: the least rest there is, of the greatest cells: the quotient is near to a whole one, but isn't.
func TestClashOfLeastRests(t *testing.T) {
	for _, p := range primes() {
		l := transform(sample.Filled(p, complex(api.MaxPart, -api.MaxPart)))
		for _, m := range someOf(p + 1) {
			clash(t, "a rest of 1", moved(l, m, 0, p-1, 1))
			clash(t, "a rest of 1", moved(l, m, p-1, 0, 1i))
		}
	}
}

// P15.1: a cell would be too great by one, in either part and of either sign, at every place of small sides; by none it is well.
func TestClashOfGreatCells(t *testing.T) {
	for _, p := range primes() {
		for k, v := range []complex128{api.MaxPart, -api.MaxPart, complex(0, api.MaxPart), complex(5, -api.MaxPart), complex(api.MaxPart, api.MaxPart)} {
			for _, place := range someOf(p * p) {
				if p > 13 && (place+k)%5 != 0 {
					continue
				}
				well := sample.With(sample.Grids(p)[k], place, v)
				leadsBack(t, transform(well), well)
				more := []complex128{1, -1, 1i, -1i, 1i}[k]
				great := transform(sample.With(well, place, v+more))
				if !alike(great) {
					t.Fatal("they don't add up alike")
				}
				clash(t, "one cell too great", great)
			}
		}
		clash(t, "all too great", transform(sample.Filled(p, api.MaxPart+1)))
		clash(t, "all too great", transform(sample.Filled(p, complex(0, -1<<26))))
	}
}

// P15.1: lists of any bins' values, held against the way back in whole numbers.
func TestBack(t *testing.T) {
	d := sample.Dice(15)
	well, none := 0, 0
	tell := func(l [][]complex128) {
		want, wrong := solved(l)
		if wrong != api.OK {
			noBack(t, "any lists", l, wrong)
			none++
			return
		}
		leadsBack(t, l, want)
		well++
	}
	for k := range 6000 {
		p := primes()[k%4]
		var l [][]complex128
		for range p + 1 {
			l = append(l, d.List(p, []func() float64{d.UpTo(1), d.UpTo(api.MaxBin), d.Extreme}[k%3]))
		}
		tell(l)
		// Lists that are nearly a grid's, or another one's.
		l = transform(sample.Grids(p)[k%13])
		for range k % 3 {
			from, to := int(d.Word()%uint64(p)), int(d.Word()%uint64(p))
			much := complex(float64(p)*d.UpTo(2)(), float64(p)*d.UpTo(2)())
			l = moved(l, int(d.Word()%uint64(p+1)), from, to, much)
		}
		if k%4 == 0 {
			l = added(l, int(d.Word()%uint64(p+1)), 0, complex(d.UpTo(1)(), d.UpTo(p)()))
		}
		tell(l)
	}
	if min(well, none) < 1500 {
		t.Errorf("the samples are too much alike: %d have a grid, %d have none", well, none)
	}
}
