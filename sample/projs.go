package sample

import (
	"math"
	"slices"

	"penumbra/api"
)

// BinCount: how many bins there are along a direction.
func BinCount(n int, d api.Dir) int { return (n-1)*(max(d.P, -d.P)+d.Q) + 1 }

// Origin: the number of the line of the cell (0, 0).
func Origin(n int, d api.Dir) int { return max(d.P, 0) * (n - 1) }

// Seen: the projections of a grid along these directions, cell by cell in whole numbers.
func Seen(g api.Grid, dirs []api.Dir) api.Sino {
	out := api.Sino{N: g.N, Projs: make([]api.Proj, len(dirs))}
	for i, d := range dirs {
		sums := make([][2]int64, BinCount(g.N, d))
		for j, v := range g.Cells {
			at := &sums[d.Q*(j%g.N)-d.P*(j/g.N)+Origin(g.N, d)]
			at[0] += int64(real(v))
			at[1] += int64(imag(v))
		}
		out.Projs[i] = api.Proj{Dir: d, Bins: make([]complex128, len(sums))}
		for bin, sum := range sums {
			out.Projs[i].Bins[bin] = complex(float64(sum[0]), float64(sum[1]))
		}
	}
	return out
}

// Projs: a projection along each direction, its bins as part tells them.
func Projs(n int, dirs []api.Dir, part func() float64) api.Sino {
	var d Dice
	out := api.Sino{N: n}
	for _, along := range dirs {
		out.Projs = append(out.Projs, api.Proj{Dir: along, Bins: d.List(BinCount(n, along), part)})
	}
	return out
}

// Sinos: sound projections of side n, none (both ways of saying it), one, two, many and 64 of them; those of a grid, and others that no grid has, with bins of parts of 2^32 either way among them.
func Sinos(n int) []api.Sino {
	d := Dice(n + 5)
	greatest := func() float64 { return float64((int(d.Word()%3) - 1) * api.MaxBin) }
	parts := []func() float64{func() float64 { return 0 }, d.UpTo(3), d.UpTo(api.MaxBin), greatest, func() float64 { return api.MaxBin }, func() float64 { return -api.MaxBin }}
	out := []api.Sino{{N: n}, {N: n, Projs: []api.Proj{}}}
	for i, dirs := range DirLists() {
		out = append(out, Seen(Grids(n)[i], dirs), Projs(n, dirs, parts[i%len(parts)]))
	}
	return out
}

// noBinParts: what is no part of a bin's value.
func noBinParts() []float64 {
	return []float64{
		MinusNought(), 0.5, -0.5, 1 + 0x1p-52, 0x1p-1074, -0x1p-1074, api.MaxPart + 0.25, api.MaxBin - 0.5, 0.5 - api.MaxBin,
		api.MaxBin + 1, -api.MaxBin - 1, api.MaxBin + 0.5, -api.MaxBin - 0.5, api.MaxBin + 0x1p-20, -api.MaxBin - 0x1p-20, 2 * api.MaxBin, -2 * api.MaxBin, 1 << 62, 1 << 63, -1 << 63, 1 << 64, 1<<64 + 1<<32, 1e300, -math.MaxFloat64,
		math.Inf(1), math.Inf(-1), math.NaN(), math.Float64frombits(0xfff0000000000001), math.Float64frombits(0x7ff0000000000001),
	}
}

// NoBins: what is no bin's value, for the sake of either part or of both.
func NoBins() []complex128 {
	var out []complex128
	for _, x := range noBinParts() {
		out = append(out, complex(x, 0), complex(0, x), complex(x, -3), complex(api.MaxBin, x), complex(x, x))
	}
	return out
}

// Blank: a projection with ordinary bins, as many as there must be.
func Blank(n int, d api.Dir) api.Proj {
	bins := make([]complex128, BinCount(n, d))
	for bin := range bins {
		bins[bin] = complex(float64(bin-2), float64(5*bin))
	}
	return api.Proj{Dir: d, Bins: bins}
}

// Blanks: one along each direction.
func Blanks(n int, dirs []api.Dir) api.Sino {
	out := api.Sino{N: n}
	for _, d := range dirs {
		out.Projs = append(out.Projs, Blank(n, d))
	}
	return out
}

// WithProj: the projections, but for one of them.
func WithProj(s api.Sino, place int, p api.Proj) api.Sino {
	projs := slices.Clone(s.Projs)
	projs[place] = p
	return api.Sino{N: s.N, Projs: projs}
}

// WithBin: the projections, but for one bin.
func WithBin(s api.Sino, place, bin int, v complex128) api.Sino {
	bins := slices.Clone(s.Projs[place].Bins)
	bins[bin] = v
	return WithProj(s, place, api.Proj{Dir: s.Projs[place].Dir, Bins: bins})
}

// A SinoFlaw is projections that aren't sound, with the error that is to be told of them.
type SinoFlaw struct {
	Sino api.Sino
	Want api.Errno
}

// SinoFlaws: each fault alone, and each ahead of those that come behind it: the side, how many there are, then projection by projection.
func SinoFlaws() []SinoFlaw {
	wheel := Wheel()
	none := api.Proj{Dir: api.Dir{P: 2, Q: 2}, Bins: make([]complex128, 5)}
	var out []SinoFlaw
	for _, n := range NoSides() {
		for _, projs := range [][]api.Proj{nil, {}, {none}, {Blank(1, wheel[0])}, Blanks(64, wheel[:3]).Projs, make([]api.Proj, 65), {Blank(2, wheel[1]), Blank(2, wheel[1])}} {
			out = append(out, SinoFlaw{api.Sino{N: n, Projs: projs}, api.ErrArg})
		}
	}
	for _, n := range []int{1, 2, 5, 64} {
		for _, projs := range [][]api.Proj{Blanks(n, wheel[:65]).Projs, make([]api.Proj, 65), make([]api.Proj, 66), make([]api.Proj, 70000), append(Blanks(n, wheel[:64]).Projs, none), append([]api.Proj{Blank(n, wheel[3])}, Blanks(n, wheel[:64]).Projs...)} {
			out = append(out, SinoFlaw{api.Sino{N: n, Projs: projs}, api.ErrLong})
		}
	}
	for _, n := range []int{1, 2, 3, 13} {
		out = append(out, dirFlaws(n)...)
		out = append(out, twiceFlaws(n)...)
		out = append(out, binFlaws(n)...)
	}
	return out
}

// FewSinos: sound ones of some sides, few and small enough to be gone through many times.
func FewSinos() []api.Sino { return slices.Concat(Sinos(1), Sinos(2), Sinos(5)) }

// FewFlaws: likewise those that aren't sound: some of each fault.
func FewFlaws() []api.Sino {
	out := []api.Sino{Blanks(2, Wheel()[:65])}
	for i, f := range SinoFlaws() {
		if i%23 == 0 && len(f.Sino.Projs) < 70 {
			out = append(out, f.Sino)
		}
	}
	return out
}

// dirFlaws: what is no direction, wherever it stands; ahead of all faults of projections behind it, and of its own bins.
func dirFlaws(n int) []SinoFlaw {
	wheel := Wheel()
	some := Blanks(n, wheel[:4])
	short := api.Proj{Dir: wheel[9]}
	var out []SinoFlaw
	for i, d := range NoDirs() {
		for _, bins := range [][]complex128{nil, Blank(n, wheel[0]).Bins, {complex(math.NaN(), 0.5)}} {
			p := api.Proj{Dir: d, Bins: bins}
			out = append(out, SinoFlaw{WithProj(some, i%4, p), api.ErrDir}, SinoFlaw{api.Sino{N: n, Projs: []api.Proj{p, p}}, api.ErrDir}, SinoFlaw{api.Sino{N: n, Projs: []api.Proj{p, short}}, api.ErrDir}, SinoFlaw{api.Sino{N: n, Projs: []api.Proj{short, p}}, api.ErrBins})
		}
	}
	full := Blanks(n, wheel[:64])
	for _, place := range []int{0, 1, 31, 62, 63} {
		out = append(out, SinoFlaw{WithProj(full, place, api.Proj{}), api.ErrDir})
	}
	return out
}

// twiceFlaws: one direction that stands twice, near and far; ahead of the bins of its second projection, behind those of the first.
func twiceFlaws(n int) []SinoFlaw {
	wheel := Wheel()
	one, other, none, short := Blank(n, wheel[0]), Blank(n, wheel[1]), api.Proj{Dir: api.Dir{Q: -1}}, api.Proj{Dir: wheel[0]}
	flaw := func(want api.Errno, projs ...api.Proj) SinoFlaw { return SinoFlaw{api.Sino{N: n, Projs: projs}, want} }
	out := []SinoFlaw{
		flaw(api.ErrTwice, one, one), flaw(api.ErrTwice, other, one, one), flaw(api.ErrTwice, one, other, one), flaw(api.ErrTwice, one, one, one),
		flaw(api.ErrTwice, one, short), flaw(api.ErrTwice, one, other, short, none), flaw(api.ErrTwice, one, one, api.Proj{Dir: wheel[2]}),
		flaw(api.ErrBins, short, one), flaw(api.ErrBins, short, short), flaw(api.ErrBins, one, api.Proj{Dir: wheel[2]}, one), flaw(api.ErrDir, one, none, one),
	}
	full := Blanks(n, wheel[:64])
	for i := 1; i < 64; i += 1 + n/3 {
		for j := range i {
			out = append(out, SinoFlaw{WithProj(full, i, full.Projs[j]), api.ErrTwice})
		}
	}
	return out
}

// binFlaws: too few, too many or none, room behind them being none; and what is no bin's value, wherever it stands.
func binFlaws(n int) []SinoFlaw {
	wheel := Wheel()
	some := Blanks(n, wheel[:5])
	var out []SinoFlaw
	for i, p := range some.Projs {
		long := append(slices.Clone(p.Bins), 0)
		for _, bins := range [][]complex128{nil, {}, long, long[:len(long)-2], append(long, long...), make([]complex128, 70000)} {
			out = append(out, SinoFlaw{WithProj(some, i, api.Proj{Dir: p.Dir, Bins: bins}), api.ErrBins})
		}
		for j, v := range NoBins() {
			out = append(out, SinoFlaw{WithBin(some, i, j%len(p.Bins), v), api.ErrBins})
		}
		for _, bin := range []int{0, len(p.Bins) / 2, len(p.Bins) - 1} {
			flawed := WithBin(some, i, bin, complex(0, MinusNought()))
			none := api.Proj{Dir: api.Dir{P: -1}}
			flawed.Projs = append(flawed.Projs, none)
			out = append(out, SinoFlaw{flawed, api.ErrBins})
		}
	}
	return out
}

// SameProj: the same direction, and the same bits in each bin, NaNs with theirs.
func SameProj(a, b api.Proj) bool { return a.Dir == b.Dir && slices.Equal(Bits(a.Bins), Bits(b.Bins)) }

// SameSino: likewise of many, of one side.
func SameSino(a, b api.Sino) bool { return a.N == b.N && slices.EqualFunc(a.Projs, b.Projs, SameProj) }

// CopySino: one in memory of its own.
func CopySino(s api.Sino) api.Sino {
	out := api.Sino{N: s.N}
	for _, p := range s.Projs {
		out.Projs = append(out.Projs, api.Proj{Dir: p.Dir, Bins: slices.Clone(p.Bins)})
	}
	return out
}

// WipeSino: all bins and projections written over, with the room behind them.
func WipeSino(s api.Sino) {
	for _, p := range s.Projs {
		overwrite(p.Bins[:cap(p.Bins)])
	}
	room := s.Projs[:cap(s.Projs)]
	for i := range room {
		room[i] = api.Proj{Dir: api.Dir{P: 99}, Bins: []complex128{complex(math.NaN(), 7)}}
	}
}

// ChangedSino: does the call change the projections that it is handed, a list of bins, or the spare room behind any of these?
func ChangedSino(s api.Sino, call func(same api.Sino)) bool {
	var room []api.Proj
	var lists [][]complex128
	for _, p := range append(slices.Clone(s.Projs), Blank(3, api.Dir{P: 1, Q: 2}), Blank(1, api.Dir{Q: 1})) {
		list, all := spare(p.Bins)
		room, lists = append(room, api.Proj{Dir: p.Dir, Bins: list}), append(lists, all)
	}
	before := CopySino(api.Sino{Projs: room})
	bits := Bits(slices.Concat(lists...))
	call(api.Sino{N: s.N, Projs: room[:len(s.Projs)]})
	for i, p := range room {
		// The room behind the bins is never none, so the first of them has an address, and shows where the list lies.
		if p.Dir != before.Projs[i].Dir || len(p.Bins) != len(before.Projs[i].Bins) || cap(p.Bins) != cap(lists[i]) || &p.Bins[:1][0] != &lists[i][0] {
			return true
		}
	}
	return !slices.Equal(Bits(slices.Concat(lists...)), bits)
}

// SharedSino: what the answer of a call for many projections shares its memory with, or "": writing over one of its lists must show neither in another one nor in another answer, of before or of later.
func SharedSino(call func() api.Sino) string {
	first, second := call(), call()
	want := CopySino(first)
	for i := range first.Projs {
		list := first.Projs[i].Bins
		overwrite(list[:cap(list)])
		for j := i + 1; j < len(first.Projs); j++ {
			if !SameProj(first.Projs[j], want.Projs[j]) {
				return "another list of the same answer"
			}
		}
	}
	WipeSino(first)
	if !SameSino(second, want) || !SameSino(call(), want) {
		return "another answer"
	}
	return ""
}

// SharedSinos: likewise of a call that is handed projections: nor must its answer show in those, nor what is written over them later in the answer.
func SharedSinos(s api.Sino, call func(same api.Sino) api.Sino) string {
	own := CopySino(s)
	if shares := SharedSino(func() api.Sino { return call(own) }); shares != "" {
		return shares
	}
	if !SameSino(own, s) {
		return "the argument"
	}
	answer := call(own)
	want := CopySino(answer)
	WipeSino(own)
	if !SameSino(answer, want) {
		return "the argument, which is written over later"
	}
	return ""
}
