package sample

import (
	"math"
	"slices"

	"penumbra/api"
)

// What the layers that lay projections back are tried with: bins of any values, directions that may stand twice.

// ManySides: every side up to 16, and some greater ones.
func ManySides() []int {
	out := []int{17, 31, 32, 33, 50, 63, 64}
	for n := 1; n <= 16; n++ {
		out = append(out, n)
	}
	return out
}

// Along: lists of directions: none (both ways of saying it), one, two that are one, some with one that comes again later, 64, 64 that are one, and 64 of which each is there twice.
func Along() [][]api.Dir {
	wheel := Wheel()
	one, other := api.Dir{P: 3, Q: 2}, api.Dir{P: -2, Q: 1}
	out := [][]api.Dir{nil, {}, {one, one}, {other, one, other, {P: 1}, other}, wheel[:64], slices.Repeat([]api.Dir{other}, 64), slices.Repeat(wheel[40:72], 2)}
	for _, d := range []api.Dir{{P: 1}, {Q: 1}, one, other, {P: 16, Q: 15}, {P: -16, Q: 15}} {
		out = append(out, []api.Dir{d})
	}
	return append(out, Dirs())
}

// Parts: what bins and cells are made of: whole, all sizes, the greatest and the least, noughts with and without a sign, infinities, NaNs, any bits.
func (d *Dice) Parts() []func() float64 {
	great := func() float64 { return math.Copysign(math.MaxFloat64, d.Near()) }
	mixed := func() float64 {
		if d.Word()%40 == 0 {
			return d.Edge()
		}
		return d.Near()
	}
	return []func() float64{d.UpTo(9), d.UpTo(api.MaxBin), d.Near, d.Between(-5, 60), d.Between(-1074, 1024), great, d.Tiny, d.Sign, MinusNought, d.Edge, d.AnyBits, mixed}
}

// Proj: a projection along (p, q).
func Proj(p, q int, bins ...complex128) api.Proj {
	return api.Proj{Dir: api.Dir{P: p, Q: q}, Bins: bins}
}

// LineOf: the number of the line on which a cell lies.
func LineOf(n int, d api.Dir, x, y int) int { return d.Q*x - d.P*y + Origin(n, d) }

// Laid: projections laid back: each cell from both parts +0 on, projection by projection, each part of a bin added by itself.
func Laid(n int, projs []api.Proj) api.Grid {
	out := Filled(n, 0)
	for y := range n {
		for x := range n {
			var re, im float64
			for _, p := range projs {
				bin := p.Bins[LineOf(n, p.Dir, x, y)]
				re += real(bin)
				im += imag(bin)
			}
			out.Cells[y*n+x] = complex(re, im)
		}
	}
	return out
}

// LaidFlaws: lists that can't be laid back over a field of side n: too many ahead of what is wrong in one of them, then the first one that has a fault, its direction ahead of its bins.
func LaidFlaws(n int) []SinoFlaw {
	wheel := Wheel()
	none, empty := Proj(2, 2, 1, 2, 3), api.Proj{Dir: wheel[5]}
	full, blank := Blanks(n, wheel[:64]).Projs, Blank(n, wheel[3])
	long, short := Blank(n, wheel[3]), Blank(n, wheel[3])
	long.Bins, short.Bins = append(long.Bins, 0), short.Bins[:len(short.Bins)-1]
	var out []SinoFlaw
	flaws := func(want api.Errno, lists ...[]api.Proj) {
		for _, projs := range lists {
			out = append(out, SinoFlaw{api.Sino{N: n, Projs: projs}, want})
		}
	}
	flaws(api.ErrLong, slices.Concat(full, []api.Proj{blank}), slices.Concat(full, []api.Proj{none}), append([]api.Proj{none}, full...), append([]api.Proj{empty}, full...), make([]api.Proj, 65), make([]api.Proj, 70000))
	flaws(api.ErrDir, []api.Proj{none}, []api.Proj{{}}, []api.Proj{none, empty}, []api.Proj{none, long}, []api.Proj{none, short}, []api.Proj{blank, none, short}, []api.Proj{blank, blank, none}, append([]api.Proj{none}, full[:63]...), append(full[:63:63], none), make([]api.Proj, 64), []api.Proj{none, none})
	flaws(api.ErrBins, []api.Proj{empty}, []api.Proj{long}, []api.Proj{short}, []api.Proj{empty, none}, []api.Proj{long, none}, []api.Proj{short, none}, []api.Proj{blank, long, none}, []api.Proj{blank, blank, short}, append([]api.Proj{long}, full[:63]...), append(full[:63:63], short), []api.Proj{long, short})
	for _, d := range NoDirs() {
		flaws(api.ErrDir, []api.Proj{{Dir: d, Bins: []complex128{1}}}, []api.Proj{blank, {Dir: d, Bins: make([]complex128, 3)}})
	}
	for _, d := range Dirs() {
		// Bins of another side are too many; room for missing ones is no bin.
		many := BinCount(n, d)
		flaws(api.ErrBins, []api.Proj{Blank(n+1, d)}, []api.Proj{{Dir: d, Bins: make([]complex128, many-1, many+5)}})
		if n > 1 {
			flaws(api.ErrBins, []api.Proj{Blank(n-1, d)})
		}
	}
	return out
}

// LaidFault: the error that is told of what can't be laid back over a field of side n.
func LaidFault(n int, projs []api.Proj) api.Errno {
	if n < 1 || n > 64 {
		return api.ErrArg
	}
	if len(projs) > 64 {
		return api.ErrLong
	}
	for _, p := range projs {
		if !IsDir(p.Dir) {
			return api.ErrDir
		}
		if len(p.Bins) != BinCount(n, p.Dir) {
			return api.ErrBins
		}
	}
	return api.OK
}

// IsDir: is it one of all that there are, in its one form, by trying all divisors?
func IsDir(d api.Dir) bool {
	if d.P < -16 || d.P > 16 || d.Q < 0 || d.Q > 16 {
		return false
	}
	if d.Q == 0 {
		return d.P == 1
	}
	for common := 2; common <= 16; common++ {
		if d.P%common == 0 && d.Q%common == 0 {
			return false
		}
	}
	return true
}
