package sample

import (
	"slices"

	"penumbra/api"
)

// Within: shapes of each kind in a part of the field of view, so that there is room for motion.
func (d *Dice) Within(n int) api.Phantom {
	x, y := d.Number(n-1), d.Number(n-1)
	w, h := 1+d.Number(n-1-x), 1+d.Number(n-1-y)
	part := d.UpTo(api.MaxWorth)
	worth := func() complex128 { return complex(part(), part()) }
	r := (min(w, h) - 1) / 2
	all := []api.Shape{Rect(x, y, w, h, worth()), Wedge(x, y, w, h, worth()), Disc(x+r, y+r, r*r, worth()), Rect(x+w-1, y, 1, h, worth())}
	return Phantom(n, all[d.Number(3):]...)
}

// beyond: shapes that reach out of the field of view, in which they have one cell, at a corner; what is outside doesn't move in.
func (d *Dice) beyond(n int) api.Phantom {
	last := n - 1
	all := []api.Shape{Rect(-3, -2, 4, 3, 5-2i), Rect(last, -7, 9, 8, 65536i), Rect(last, last, 1024, 1024, -3), Rect(-1023, last, 1024, 1, 1+1i), Disc(-2, 0, 4, 7), Wedge(-4, -5, 5, 6, -9i), Wedge(last, last, 40, 30, 2)}
	return Phantom(n, all[d.Number(len(all)-1)])
}

// Thing: a phantom of any kind, half of them such that may move.
func (d *Dice) Thing(n int) api.Phantom {
	switch d.Number(7) {
	case 0, 1, 2, 3:
		return d.Within(n)
	case 4:
		return d.beyond(n)
	case 5:
		all := append(Waste(n), Bare(n), api.Phantom{N: n})
		return all[d.Number(len(all)-1)]
	}
	all := AllPhantoms(n)
	return all[d.Number(len(all)-1)]
}

// Fans: lists of directions: none (both ways of saying it), one, some, just enough, more than that, and now and then 64.
func (d *Dice) Fans(n int) [][]api.Dir {
	enough := d.Enough(n)
	out := [][]api.Dir{nil, {}, d.Picked(Dirs(), 1), d.Picked(Short(), 3), d.Picked(Wheel(), 1+d.Number(6)), enough, slices.Concat(enough, d.Picked(Without(Wheel(), enough), 2))}
	if n%13 == 1 {
		out = append(out, d.Picked(Wheel(), 64), d.Picked(Wheel(), 63))
	}
	return out
}

// Without: those of the first list that aren't in the second.
func Without(all, some []api.Dir) []api.Dir {
	return slices.DeleteFunc(slices.Clone(all), func(d api.Dir) bool { return slices.Contains(some, d) })
}

// Some: each of so many places, or not.
func (d *Dice) Some(many int) []int {
	var out []int
	for place := range many {
		if d.Number(1) == 0 {
			out = append(out, place)
		}
	}
	return out
}

// Count: 0, 1, 2, ..
func Count(many int) []int {
	var out []int
	for place := range many {
		out = append(out, place)
	}
	return out
}

// Missings: which places may be missing: none (both ways of saying it), the first, the last, one, some, all but one, all.
func (d *Dice) Missings(many int) [][]int {
	out := [][]int{nil, {}}
	if many == 0 {
		return out
	}
	at := d.Number(many - 1)
	return append(out, []int{0}, []int{many - 1}, []int{at}, d.Some(many), d.Some(many), slices.Delete(Count(many), at, at+1), Count(many))
}
