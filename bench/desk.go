package bench

import (
	"slices"

	"penumbra/api"
	"penumbra/dir"
	"penumbra/phantom"
)

// A desk is what is kept from line to line. All of it is sound at any time, so that a call that looks at nothing else refuses nothing.
type desk struct {
	thing   api.Phantom
	dirs    []api.Dir
	missing []int // places in dirs, rising
	file    []byte
}

func newDesk() *desk { return &desk{thing: api.Phantom{N: 1}} }

// done is what a command tells that tells nothing else.
const done = "ok\n"

func (d *desk) side(n []int) (string, api.Errno) {
	if n[0] < 1 || n[0] > api.MaxSide {
		return "", api.ErrArg
	}
	d.thing = api.Phantom{N: n[0]}
	return done, api.OK
}

func (d *desk) rect(n []int) (string, api.Errno) {
	return d.lay(api.Shape{Kind: api.Rect, X: n[0], Y: n[1], A: n[2], B: n[3], Worth: worth(n[4], n[5])})
}

func (d *desk) disc(n []int) (string, api.Errno) {
	return d.lay(api.Shape{Kind: api.Disc, X: n[0], Y: n[1], A: n[2], Worth: worth(n[3], n[4])})
}

func (d *desk) wedge(n []int) (string, api.Errno) {
	return d.lay(api.Shape{Kind: api.Wedge, X: n[0], Y: n[1], A: n[2], B: n[3], Worth: worth(n[4], n[5])})
}

func worth(re, im int) complex128 { return complex(float64(re), float64(im)) }

// lay: the phantom is looked at with the shape in it, since a shape too many is told ahead of one that is none.
func (d *desk) lay(s api.Shape) (string, api.Errno) {
	with := api.Phantom{N: d.thing.N, Shapes: append(slices.Clone(d.thing.Shapes), s)}
	if err := phantom.Check(with); err != api.OK {
		return "", err
	}
	d.thing = with
	return done, api.OK
}

func (d *desk) move(n []int) (string, api.Errno) {
	moved, err := phantom.Moved(d.thing, n[0], n[1])
	if err != api.OK {
		return "", err
	}
	d.thing = moved
	return done, api.OK
}

func (d *desk) dir(n []int) (string, api.Errno) {
	next, err := dir.Normal(n[0], n[1])
	if err != api.OK {
		return "", err
	}
	if len(d.dirs) == api.MaxDirs {
		return "", api.ErrLong
	}
	if slices.Contains(d.dirs, next) {
		return "", api.ErrTwice
	}
	d.dirs = append(d.dirs, next)
	return done, api.OK
}

func (d *desk) all(n []int) (string, api.Errno) {
	every, err := dir.All(n[0])
	if err != api.OK {
		return "", err
	}
	if len(every) > api.MaxDirs {
		return "", api.ErrLong
	}
	d.dirs, d.missing = every, nil
	return done, api.OK
}

func (d *desk) none() (string, api.Errno) {
	d.dirs, d.missing = nil, nil
	return done, api.OK
}

// miss: a plan's missing places rise, so each is put where it belongs, in whatever order they are named.
func (d *desk) miss(n []int) (string, api.Errno) {
	at, there := slices.BinarySearch(d.missing, n[0])
	if n[0] < 0 || n[0] >= len(d.dirs) || there {
		return "", api.ErrPlan
	}
	d.missing = slices.Insert(d.missing, at, n[0])
	return done, api.OK
}

// present: the directions that aren't missing.
func (d *desk) present() []api.Dir {
	var out []api.Dir
	for place, along := range d.dirs {
		if !slices.Contains(d.missing, place) {
			out = append(out, along)
		}
	}
	return out
}

func (d *desk) raster() api.Grid {
	cells, _ := phantom.Raster(d.thing)
	return cells
}
