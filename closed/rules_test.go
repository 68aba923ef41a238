package closed_test

import (
	"penumbra/api"
	"penumbra/sample"
)

// The chapter's rules as they stand, cell by cell and in whole numbers.

// A pair is a number in whole parts.
type pair struct{ re, im int }

func pairOf(v complex128) pair { return pair{int(real(v)), int(imag(v))} }

// number: noughts of it are +0, since 0 is the only whole number that is one.
func (a pair) number() complex128 { return complex(float64(a.re), float64(a.im)) }

func (a pair) plus(b pair) pair { return pair{a.re + b.re, a.im + b.im} }

func (a pair) times(many int) pair { return pair{a.re * many, a.im * many} }

// holds: layer 7's table.
func holds(s api.Shape, x, y int) bool {
	right, down := x-s.X, y-s.Y
	switch s.Kind {
	case api.Rect:
		return right >= 0 && right < s.A && down >= 0 && down < s.B
	case api.Disc:
		return right*right+down*down <= s.A
	}
	return right >= 0 && down >= 0 && right*s.B+down*s.A < s.A*s.B
}

// cells: the values of the field of view, row by row.
func cells(p api.Phantom) []pair {
	out := make([]pair, p.N*p.N)
	for j := range out {
		for _, s := range p.Shapes {
			if holds(s, j%p.N, j/p.N) {
				out[j] = out[j].plus(pairOf(s.Worth))
			}
		}
	}
	return out
}

// bins: layer 6's numbers, from 0 on.
func bins(n int, d api.Dir) int { return (n-1)*(max(d.P, -d.P)+d.Q) + 1 }

// origin: the number of the line of the cell (0, 0).
func origin(n int, d api.Dir) int {
	if d.P > 0 {
		return d.P * (n - 1)
	}
	return 0
}

// projected: the sums of the cells on each line, 0 where there are none.
func projected(n int, cells []pair, d api.Dir) api.Proj {
	sums := make([]pair, bins(n, d))
	for j, v := range cells {
		bin := d.Q*(j%n) - d.P*(j/n) + origin(n, d)
		sums[bin] = sums[bin].plus(v)
	}
	return api.Proj{Dir: d, Bins: numbers(sums)}
}

func numbers(list []pair) []complex128 {
	out := make([]complex128, len(list))
	for i, v := range list {
		out[i] = v.number()
	}
	return out
}

// moments: the sums of x times the value, and of y times it.
func moments(n int, cells []pair) (mx, my pair) {
	for j, v := range cells {
		mx, my = mx.plus(v.times(j%n)), my.plus(v.times(j/n))
	}
	return mx, my
}

// sameMoments: bit by bit.
func sameMoments(x, y complex128, mx, my pair) bool {
	return sample.Agree(x, mx.number()) && sample.Agree(y, my.number())
}
