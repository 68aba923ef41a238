package fit_test

import (
	"math"
	"slices"

	"penumbra/api"
	"penumbra/sample"
)

// The chapter's rules as they stand, each part by itself.

// left: of each projection each bin less the sum of the cells on its line, from both parts +0 on, row by row.
func left(f api.Grid, projs []api.Proj) []api.Proj {
	var out []api.Proj
	for _, p := range projs {
		re, im := make([]float64, len(p.Bins)), make([]float64, len(p.Bins))
		for y := range f.N {
			for x := range f.N {
				bin, v := sample.LineOf(f.N, p.Dir, x, y), f.Cells[y*f.N+x]
				re[bin] += real(v)
				im[bin] += imag(v)
			}
		}
		rest := api.Proj{Dir: p.Dir}
		for bin, v := range p.Bins {
			rest.Bins = append(rest.Bins, complex(real(v)-re[bin], imag(v)-im[bin]))
		}
		out = append(out, rest)
	}
	return out
}

// greatest: of all parts without their signs; NaN, if one is, and 0, if there is none.
func greatest(projs []api.Proj) float64 {
	most := 0.0
	for _, p := range projs {
		for _, v := range p.Bins {
			for _, x := range []float64{real(v), imag(v)} {
				if math.IsNaN(x) || math.IsNaN(most) {
					most = math.NaN()
				} else if math.Abs(x) > most {
					most = math.Abs(x)
				}
			}
		}
	}
	return most
}

// round: what the rests leave laid back, times 2 to the -down, which rounds once, added to each cell.
func round(f api.Grid, rests []api.Proj, down int) api.Grid {
	out := sample.Filled(f.N, 0)
	part := 1 / float64(int(1)<<down)
	for place, v := range sample.Laid(f.N, rests).Cells {
		re, im := float64(real(v)*part), float64(imag(v)*part)
		out.Cells[place] = complex(real(f.Cells[place])+re, imag(f.Cells[place])+im)
	}
	return out
}

// fitted: the field after that many rounds, and how great the rests were, unless they are 0 ahead of one.
func fitted(start api.Grid, projs []api.Proj, rounds, down int) api.Fit {
	field := api.Grid{N: start.N, Cells: slices.Clone(start.Cells)}
	rests := left(field, projs)
	sizes := []float64{greatest(rests)}
	for done := 0; done < rounds && sizes[done] != 0; done++ {
		field = round(field, rests, down)
		rests = left(field, projs)
		sizes = append(sizes, greatest(rests))
	}
	return api.Fit{Field: field, Sizes: sizes}
}

// fault: the first error that Run and Rests have in common.
func fault(f api.Grid, projs []api.Proj) api.Errno {
	if f.N < 1 || f.N > 64 || len(f.Cells) != f.N*f.N {
		return api.ErrArg
	}
	return sample.LaidFault(f.N, projs)
}
