package sino

import (
	"penumbra/api"
	"penumbra/dir"
)

// An exact is a sum of whole complex numbers. A float64 would not do: the moments of two projections times their steps may have more than 53 bits. An int64 does: the places of a projection's bins add up to less than 2^21, so its moment is below 2^53; two of those, each times a step, are below 2^58; and along any direction, |P| and Q of which are at most 31 together, that makes less than 2^63.
type exact struct{ re, im int64 }

// number: rounded where a part has more bits than a float64.
func (a exact) number() complex128 { return complex(float64(a.re), float64(a.im)) }

func (a exact) times(k int) exact { return exact{a.re * int64(k), a.im * int64(k)} }

func (a exact) minus(b exact) exact { return exact{a.re - b.re, a.im - b.im} }

// over: a by k, and whether nothing is left.
func (a exact) over(k int) (exact, bool) {
	by := exact{a.re / int64(k), a.im / int64(k)}
	return by, by.times(k) == a
}

// weighed: the sum of the bins, each times its weight.
func weighed(bins []complex128, weight func(bin int) int) exact {
	var sum exact
	for bin, v := range bins {
		w := int64(weight(bin))
		sum.re += w * int64(real(v))
		sum.im += w * int64(imag(v))
	}
	return sum
}

func total(p api.Proj) exact {
	return weighed(p.Bins, func(int) int { return 1 })
}

// moment: each bin times how far its line lies from that of the cell (0, 0).
func moment(n int, p api.Proj) exact {
	m, _ := dir.Index(n, p.Dir, 0, 0)
	return weighed(p.Bins, func(bin int) int { return bin - m })
}

// along: what the moment of a projection is if mx and my are those of the cells.
func along(d api.Dir, mx, my exact) exact { return mx.times(d.Q).minus(my.times(d.P)) }

// meet: the mx and my that two projections along unlike directions lead to, and whether both are whole.
func meet(n int, a, b api.Proj) (mx, my exact, whole bool) {
	first, second := moment(n, a), moment(n, b)
	between := a.Dir.P*b.Dir.Q - a.Dir.Q*b.Dir.P
	mx, wholeX := second.times(a.Dir.P).minus(first.times(b.Dir.P)).over(between)
	my, wholeY := second.times(a.Dir.Q).minus(first.times(b.Dir.Q)).over(between)
	return mx, my, wholeX && wholeY
}
