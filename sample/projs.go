package sample

import (
	"math"
	"slices"

	"penumbra/api"
)

// SameProj: the same direction, and the same bits in each bin, NaNs with theirs.
func SameProj(a, b api.Proj) bool { return a.Dir == b.Dir && slices.Equal(Bits(a.Bins), Bits(b.Bins)) }

// SameSino: likewise of many, of one side.
func SameSino(a, b api.Sino) bool { return a.N == b.N && slices.EqualFunc(a.Projs, b.Projs, SameProj) }

// CopySino: one in memory of its own.
func CopySino(s api.Sino) api.Sino {
	out := api.Sino{N: s.N}
	for _, p := range s.Projs {
		out.Projs = append(out.Projs, api.Proj{Dir: p.Dir, Bins: slices.Clone(p.Bins)})
	}
	return out
}

// SharedSino: what the answer of a call for many projections shares its memory with, or "": writing over one of its lists must show neither in another one nor in another answer, of before or of later.
func SharedSino(call func() api.Sino) string {
	first, second := call(), call()
	want := CopySino(first)
	for i := range first.Projs {
		list := first.Projs[i].Bins
		overwrite(list[:cap(list)])
		for j := i + 1; j < len(first.Projs); j++ {
			if !SameProj(first.Projs[j], want.Projs[j]) {
				return "another list of the same answer"
			}
		}
	}
	room := first.Projs[:cap(first.Projs)]
	for i := range room {
		room[i] = api.Proj{Dir: api.Dir{P: 99}, Bins: []complex128{complex(math.NaN(), 7)}}
	}
	if !SameSino(second, want) || !SameSino(call(), want) {
		return "another answer"
	}
	return ""
}
