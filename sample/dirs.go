package sample

import (
	"math"
	"slices"

	"penumbra/api"
)

// Ends: of int, and numbers whose products go round or whose low halves look like small ones.
func Ends() []int {
	return []int{math.MinInt, math.MinInt + 1, -1 << 62, -1 << 32, -1<<32 + 1, 1 << 31, 1 << 32, 1<<32 + 1, 1<<32 + 3, 1 << 60, 1<<60 + 1, 1 << 62, math.MaxInt - 1, math.MaxInt}
}

// Sides: of a grid: the edges, and ordinary ones, odd and even.
func Sides() []int { return []int{1, 2, 3, 4, 5, 8, 13, 17, 63, 64} }

// NoSides: what is no side of a grid.
func NoSides() []int {
	return append(Ends(), -65, -64, -3, -2, -1, 0, 65, 66, 128, 1024, 4096)
}

// Dirs: the directions with an edge about them, and ordinary ones.
func Dirs() []api.Dir {
	return []api.Dir{
		{P: 1}, {Q: 1}, {P: 1, Q: 1}, {P: -1, Q: 1}, {P: 1, Q: 2}, {P: -1, Q: 2}, {P: 2, Q: 1}, {P: -2, Q: 1}, {P: 3, Q: 2}, {P: -3, Q: 5},
		{P: 16, Q: 1}, {P: -16, Q: 1}, {P: 1, Q: 16}, {P: -1, Q: 16}, {P: 16, Q: 15}, {P: -16, Q: 15}, {P: 15, Q: 16}, {P: -15, Q: 16}, {P: 9, Q: 16}, {P: -7, Q: 12},
	}
}

// Short: directions of few steps, to the right, to the left, straight across and straight down.
func Short() []api.Dir {
	return []api.Dir{{P: 1}, {Q: 1}, {P: 1, Q: 1}, {P: -1, Q: 1}, {P: 2, Q: 1}, {P: -2, Q: 1}, {P: 1, Q: 2}, {P: -1, Q: 2}, {P: 3, Q: 1}, {P: -3, Q: 2}, {P: 2, Q: 3}, {P: -1, Q: 3}}
}

// NoDirs: what is no direction in its one form.
func NoDirs() []api.Dir {
	out := []api.Dir{
		{}, {P: -1}, {P: 2}, {P: -2}, {P: 16}, {P: -16}, {Q: -1}, {Q: 2}, {Q: 16}, {Q: -16},
		{P: 1, Q: -1}, {P: -1, Q: -1}, {P: 2, Q: 2}, {P: -2, Q: 2}, {P: 4, Q: 6}, {P: -9, Q: 15}, {P: 16, Q: 16}, {P: -16, Q: 16}, {P: 14, Q: 7}, {P: 13, Q: 13}, {P: 2, Q: -3},
		{P: 17, Q: 1}, {P: -17, Q: 1}, {P: 1, Q: 17}, {P: -1, Q: 17}, {P: 17, Q: 16}, {P: 16, Q: 17}, {P: 17}, {P: -17}, {Q: 17}, {Q: -17}, {P: 17, Q: -1}, {P: 17, Q: 17}, {P: 34, Q: 2},
	}
	for _, a := range Ends() {
		out = append(out, api.Dir{P: a, Q: 1}, api.Dir{P: 1, Q: a}, api.Dir{P: a}, api.Dir{Q: a}, api.Dir{P: a, Q: a}, api.Dir{P: a, Q: 16}, api.Dir{P: -16, Q: a})
	}
	return out
}

// Wheel: all directions there are, those that stand near each other in the list being of unlike angles.
func Wheel() []api.Dir {
	all := []api.Dir{{P: 1}}
	for q := 1; q <= api.MaxStep; q++ {
		for p := -api.MaxStep; p <= api.MaxStep; p++ {
			if divisor(p, q) == 1 {
				all = append(all, api.Dir{P: p, Q: q})
			}
		}
	}
	out := make([]api.Dir, len(all))
	for i := range all {
		out[i] = all[i*67%len(all)]
	}
	return out
}

// divisor: the greatest number that divides both.
func divisor(p, q int) int {
	for d := q; ; d-- {
		if p%d == 0 && q%d == 0 {
			return d
		}
	}
}

// DirLists: of no direction (both ways of saying it), of one, of as many as there may be, and of some, in no order of their angles.
func DirLists() [][]api.Dir {
	all := Wheel()
	return [][]api.Dir{nil, {}, {{P: 1}}, {{P: -16, Q: 15}}, all[:2], all[3:18], all[50:67], all[:63], all[:64], all[256:], Dirs()}
}

// Picked: so many of them, each once, as the dice fall.
func (d *Dice) Picked(all []api.Dir, many int) []api.Dir {
	rest := slices.Clone(all)
	var out []api.Dir
	for range many {
		at := int(d.Word() % uint64(len(rest)))
		out = append(out, rest[at])
		rest = slices.Delete(rest, at, at+1)
	}
	return out
}

// Enough: directions that determine every grid of side n, and without the last of them don't: few and long ones, or many and short ones.
func (d *Dice) Enough(n int) []api.Dir {
	from := Wheel()
	if d.Word()%2 == 0 && n <= 18 { // the short ones have 18 steps each way
		from = Short()
	}
	all := d.Picked(from, len(from))
	across, down := 0, 0
	for many, along := range all {
		across, down = across+max(along.P, -along.P), down+along.Q
		if across >= n || down >= n {
			return all[:many+1]
		}
	}
	return all
}

// Orders: all of them, of a list.
func Orders(dirs []api.Dir) [][]api.Dir {
	if len(dirs) == 0 {
		return [][]api.Dir{{}}
	}
	var out [][]api.Dir
	for at, d := range dirs {
		rest := slices.Delete(slices.Clone(dirs), at, at+1)
		for _, order := range Orders(rest) {
			out = append(out, append([]api.Dir{d}, order...))
		}
	}
	return out
}

// A DirFlaw is a list of directions along which nothing is projected, with the error that is to be told of it.
type DirFlaw struct {
	Dirs []api.Dir
	Want api.Errno
}

// DirFlaws: too many, one that is none, one that stands twice; each alone and ahead of those that come behind it.
func DirFlaws() []DirFlaw {
	all := Wheel()
	one, other, none, far := all[0], all[1], api.Dir{P: 2, Q: 2}, api.Dir{P: 17, Q: 1}
	behind := func(many int, d api.Dir) []api.Dir { return append(all[:many:many], d) }
	out := []DirFlaw{
		{all[:65], api.ErrLong}, {all[:66], api.ErrLong}, {all, api.ErrLong}, {make([]api.Dir, 65), api.ErrLong}, {append([]api.Dir{one}, all[:64]...), api.ErrLong}, {behind(64, none), api.ErrLong}, {make([]api.Dir, 70000), api.ErrLong},
		{[]api.Dir{none}, api.ErrDir}, {[]api.Dir{{}}, api.ErrDir}, {make([]api.Dir, 64), api.ErrDir}, {behind(63, none), api.ErrDir}, {append([]api.Dir{far}, all[:63]...), api.ErrDir},
		{[]api.Dir{none, none}, api.ErrDir}, {[]api.Dir{none, one, one}, api.ErrDir}, {[]api.Dir{one, none, one}, api.ErrDir}, {[]api.Dir{far, other, one, other}, api.ErrDir},
		{[]api.Dir{one, one}, api.ErrTwice}, {[]api.Dir{one, other, one}, api.ErrTwice}, {[]api.Dir{other, one, one}, api.ErrTwice}, {behind(63, one), api.ErrTwice}, {behind(63, all[62]), api.ErrTwice}, {behind(63, all[31]), api.ErrTwice},
		{[]api.Dir{one, one, none}, api.ErrTwice}, {[]api.Dir{one, other, one, far}, api.ErrTwice}, {[]api.Dir{one, one, one}, api.ErrTwice},
	}
	for _, d := range NoDirs() {
		out = append(out, DirFlaw{[]api.Dir{one, d, one}, api.ErrDir})
	}
	for i := 1; i < 64; i++ { // wherever the first of the two stands, and the second
		for j := range i {
			twice := behind(i, all[j])
			out = append(out, DirFlaw{append(twice, all[i+1:64]...), api.ErrTwice})
		}
	}
	return out
}
