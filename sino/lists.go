package sino

import (
	"slices"

	"penumbra/api"
	"penumbra/cx"
)

// areBins: is each a bin's value?
func areBins(list []complex128) bool {
	return !slices.ContainsFunc(list, func(v complex128) bool { return !cx.Whole(v, api.MaxBin) })
}

// places: where the projection along each direction stands.
func places(s api.Sino) map[api.Dir]int {
	at := map[api.Dir]int{}
	for i, p := range s.Projs {
		at[p.Dir] = i
	}
	return at
}

// copied: these projections in memory of their own.
func copied(n int, projs []api.Proj) api.Sino {
	out := api.Sino{N: n, Projs: make([]api.Proj, len(projs))}
	for i, p := range projs {
		out.Projs[i] = api.Proj{Dir: p.Dir, Bins: slices.Clone(p.Bins)}
	}
	return out
}
