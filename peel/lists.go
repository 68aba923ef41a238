package peel

import (
	"slices"

	"penumbra/api"
	"penumbra/dir"
)

// lookThrough: how many there are comes ahead of what each of them is, of which layer 6 tells the first fault.
func lookThrough(n int, dirs []api.Dir) api.Errno {
	if n < 1 || n > api.MaxSide {
		return api.ErrArg
	}
	if len(dirs) > api.MaxDirs {
		return api.ErrLong
	}
	_, err := dir.Katz(n, dirs)
	return err
}

// restsOf: the bins, in memory of their own.
func restsOf(s api.Sino) [][]complex128 {
	var out [][]complex128
	for _, p := range s.Projs {
		out = append(out, slices.Clone(p.Bins))
	}
	return out
}

// hasRest: is one of them not 0?
func hasRest(rests []complex128) bool {
	return slices.ContainsFunc(rests, func(v complex128) bool { return v != 0 })
}
