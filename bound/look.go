package bound

import (
	"slices"

	"penumbra/api"
	"penumbra/cx"
	"penumbra/dir"
)

func isSmall(n int) bool { return n >= 1 && n <= api.MaxSmall }

// look has the errors that are told ahead of all sweeps but for bounds that are contradicted, in their order.
func look(n int, projs []api.Proj, lo, hi []int) api.Errno {
	if !isSmall(n) || !areLevels(n*n, lo, hi) {
		return api.ErrArg
	}
	if len(projs) > api.MaxDirs {
		return api.ErrLong
	}
	for _, p := range projs {
		bins, err := dir.Bins(n, p.Dir)
		if err != api.OK {
			return err
		}
		if len(p.Bins) != bins || !areSums(p.Bins) {
			return api.ErrBins
		}
	}
	return api.OK
}

// areLevels: is each list of so many numbers, and each number a level?
func areLevels(many int, lists ...[]int) bool {
	for _, list := range lists {
		if len(list) != many || slices.ContainsFunc(list, isNoLevel) {
			return false
		}
	}
	return true
}

func isNoLevel(v int) bool { return v < 0 || v > api.MaxLevel }

// areSums: may each bin be what levels add up to?
func areSums(bins []complex128) bool {
	return !slices.ContainsFunc(bins, func(v complex128) bool {
		return !cx.Whole(v, api.MaxBin) || real(v) < 0 || imag(v) != 0
	})
}
