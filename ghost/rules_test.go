package ghost_test

import (
	"slices"

	"penumbra/api"
	"penumbra/sample"
)

// The chapter's rules as they stand, in whole numbers.

// stepped: how far they go together, to either side and down.
func stepped(dirs []api.Dir) (across, down int) {
	for _, d := range dirs {
		across += max(d.P, -d.P)
		down += d.Q
	}
	return across, down
}

// listed: the error of a list of directions, one after the other.
func listed(dirs []api.Dir) api.Errno {
	all := sample.Wheel()
	for i, d := range dirs {
		if !slices.Contains(all, d) {
			return api.ErrDir
		}
		if slices.Contains(dirs[:i], d) {
			return api.ErrTwice
		}
	}
	return api.OK
}

// A sheet is cells on a plane without edges; where there is none, it is 0.
type sheet map[api.Cell]int

// lay: a copy of the other sheet, moved, each cell times the sign.
func (s sheet) lay(other sheet, x, y, sign int) {
	for c, v := range other {
		s[api.Cell{X: c.X + x, Y: c.Y + y}] += sign * v
	}
}

// made: the ghost of directions, copy by copy.
func made(dirs []api.Dir) (api.Ghost, api.Errno) {
	if len(dirs) > 8 {
		return api.Ghost{}, api.ErrLong
	}
	if e := listed(dirs); e != api.OK {
		return api.Ghost{}, e
	}
	across, down := stepped(dirs)
	if across+1 > 64 || down+1 > 64 {
		return api.Ghost{}, api.ErrBig
	}
	all := sheet{{}: 1}
	for _, d := range dirs {
		both := sheet{}
		if d.P >= 0 {
			both.lay(all, 0, 0, 1)
			both.lay(all, d.P, d.Q, -1)
		} else {
			both.lay(all, -d.P, 0, 1)
			both.lay(all, 0, d.Q, -1)
		}
		all = both
	}
	return cut(all, across+1, down+1), api.OK
}

// cut: the cells of the sheet from (0, 0) on.
func cut(s sheet, w, h int) api.Ghost {
	out := api.Ghost{W: w, H: h}
	for y := range h {
		for x := range w {
			out.Cells = append(out.Cells, complex(float64(s[api.Cell{X: x, Y: y}]), 0))
		}
	}
	return out
}

// bySubsets: the ghost another way: each direction is in its second copy or in its first one, and each choice for all of them leads to one place, with a sign for each second copy.
func bySubsets(dirs []api.Dir) api.Ghost {
	all := sheet{}
	for choice := range 1 << len(dirs) {
		at, sign := api.Cell{}, 1
		for i, d := range dirs {
			if choice>>i&1 == 1 {
				at.X, at.Y, sign = at.X+max(d.P, 0), at.Y+d.Q, -sign
			} else {
				at.X += max(-d.P, 0)
			}
		}
		all[at] += sign
	}
	across, down := stepped(dirs)
	return cut(all, across+1, down+1)
}

// A pair is a number in whole parts.
type pair struct{ p, q int64 }

func pairOf(v complex128) pair { return pair{int64(real(v)), int64(imag(v))} }

func (a pair) number() complex128 { return complex(float64(a.p), float64(a.q)) }

func (a pair) plus(b pair) pair { return pair{a.p + b.p, a.q + b.q} }

func (a pair) times(b pair) pair { return pair{a.p*b.p - a.q*b.q, a.p*b.q + a.q*b.p} }

func (a pair) size() int64 { return max(a.p, -a.p, a.q, -a.q) }

// haunted: of a sound grid, a sound ghost and a v that may be.
func haunted(g api.Grid, h api.Ghost, x, y int, v complex128) (api.Grid, api.Errno) {
	out := api.Grid{N: g.N, Cells: slices.Clone(g.Cells)}
	if x < 0 || y < 0 || x > 64 || y > 64 || x+h.W > g.N || y+h.H > g.N {
		return api.Grid{}, api.ErrArg
	}
	for row := range h.H {
		for column := range h.W {
			at := (y+row)*g.N + x + column
			sum := pairOf(g.Cells[at]).plus(pairOf(v).times(pairOf(h.Cells[row*h.W+column])))
			if sum.size() > 1<<20 {
				return api.Grid{}, api.ErrBig
			}
			out.Cells[at] = sum.number()
		}
	}
	return out, api.OK
}

// unseen: from each cell that has none ahead of it on its line, on by whole steps as long as there are cells.
func unseen(h api.Ghost, d api.Dir) bool {
	within := func(x, y int) bool { return x >= 0 && x < h.W && y >= 0 && y < h.H }
	for y := range h.H {
		for x := range h.W {
			if within(x-d.P, y-d.Q) {
				continue
			}
			var sum pair
			for a, b := x, y; within(a, b); a, b = a+d.P, b+d.Q {
				sum = sum.plus(pairOf(h.Cells[b*h.W+a]))
			}
			if sum != (pair{}) {
				return false
			}
		}
	}
	return true
}
