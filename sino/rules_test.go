package sino_test

import (
	"math"
	"math/big"

	"penumbra/api"
	"penumbra/sample"
)

// The chapter's rules as they stand, in numbers of any length.

func isBinPart(x float64) bool {
	return x == math.Trunc(x) && math.Abs(x) <= 4294967296 && (x != 0 || !math.Signbit(x))
}

// projError: the first fault of the projection at that place.
func projError(s api.Sino, place int) api.Errno {
	p := s.Projs[place]
	if !sample.IsDir(p.Dir) {
		return api.ErrDir
	}
	for _, ahead := range s.Projs[:place] {
		if ahead.Dir == p.Dir {
			return api.ErrTwice
		}
	}
	if len(p.Bins) != sample.BinCount(s.N, p.Dir) {
		return api.ErrBins
	}
	for _, v := range p.Bins {
		if !isBinPart(real(v)) || !isBinPart(imag(v)) {
			return api.ErrBins
		}
	}
	return api.OK
}

// verdict: the error of the first fault.
func verdict(s api.Sino) api.Errno {
	if s.N < 1 || s.N > 64 {
		return api.ErrArg
	}
	if len(s.Projs) > 64 {
		return api.ErrLong
	}
	for place := range s.Projs {
		if e := projError(s, place); e != api.OK {
			return e
		}
	}
	return api.OK
}

// sums: of either part of the bins, each times its weight.
func sums(p api.Proj, weight func(bin int) int) (parts [2]*big.Int) {
	parts = [2]*big.Int{new(big.Int), new(big.Int)}
	for bin, v := range p.Bins {
		for k, part := range []float64{real(v), imag(v)} {
			term := new(big.Int).Mul(big.NewInt(int64(part)), big.NewInt(int64(weight(bin))))
			parts[k].Add(parts[k], term)
		}
	}
	return parts
}

func moments(n int, p api.Proj) [2]*big.Int {
	return sums(p, func(bin int) int { return bin - sample.Origin(n, p.Dir) })
}

func number(parts [2]*big.Int) complex128 { return complex(rounded(parts[0]), rounded(parts[1])) }

// rounded: to the nearest float64, of two the even one.
func rounded(x *big.Int) float64 {
	near, _ := new(big.Float).SetInt(x).Float64()
	return near
}

// totals: what Total is to answer of sound projections.
func totals(s api.Sino) (complex128, api.Errno) {
	if len(s.Projs) == 0 {
		return 0, api.ErrFew
	}
	once := func(int) int { return 1 }
	first := sums(s.Projs[0], once)
	for _, p := range s.Projs {
		if each := sums(p, once); each[0].Cmp(first[0]) != 0 || each[1].Cmp(first[1]) != 0 {
			return 0, api.ErrClash
		}
	}
	return number(first), api.OK
}

func rat(k int) *big.Rat { return new(big.Rat).SetInt64(int64(k)) }

func product(a, b *big.Rat) *big.Rat { return new(big.Rat).Mul(a, b) }

// solved: x and y out of Q*x - P*y = s of two directions. The one of the two with a Q tells x by y, and that goes into the other.
func solved(a, b api.Dir, s, r *big.Rat) (x, y *big.Rat) {
	if a.Q == 0 {
		a, b, s, r = b, a, r, s
	}
	byQ := new(big.Rat).Inv(rat(a.Q))
	slope, start := product(rat(a.P), byQ), product(s, byQ) // x = start + slope*y
	factor := new(big.Rat).Sub(product(rat(b.Q), slope), rat(b.P))
	rest := new(big.Rat).Sub(r, product(rat(b.Q), start))
	y = rest.Quo(rest, factor)
	return start.Add(start, product(slope, y)), y
}

// part: one part of mx and my, and whether there are such whole numbers.
func part(s api.Sino, k int) (x, y float64, well bool) {
	var right []*big.Rat
	for _, p := range s.Projs {
		right = append(right, new(big.Rat).SetInt(moments(s.N, p)[k]))
	}
	last := len(right) - 1
	mx, my := solved(s.Projs[last].Dir, s.Projs[0].Dir, right[last], right[0])
	for i, p := range s.Projs {
		left := new(big.Rat).Sub(product(rat(p.Dir.Q), mx), product(rat(p.Dir.P), my))
		if left.Cmp(right[i]) != 0 {
			return 0, 0, false
		}
	}
	return rounded(mx.Num()), rounded(my.Num()), mx.IsInt() && my.IsInt()
}

// met: what Moment is to answer of sound projections.
func met(s api.Sino) (mx, my complex128, e api.Errno) {
	if len(s.Projs) < 2 {
		return 0, 0, api.ErrFew
	}
	reX, reY, wellRe := part(s, 0)
	imX, imY, wellIm := part(s, 1)
	if !wellRe || !wellIm {
		return 0, 0, api.ErrClash
	}
	return complex(reX, imX), complex(reY, imY), api.OK
}
