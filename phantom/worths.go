package phantom

import (
	"math"

	"penumbra/api"
	"penumbra/shape"
)

func isWorth(v complex128) bool { return isPart(real(v)) && isPart(imag(v)) }

// isPart: no comparison holds of a NaN, and none tells a nought with a sign from one without.
func isPart(f float64) bool {
	near := f >= -api.MaxWorth && f <= api.MaxWorth
	return near && f == math.Trunc(f) && (f != 0 || !math.Signbit(f))
}

// lay adds the shape's worth to its cells, in the grid itself.
func lay(s api.Shape, g api.Grid) {
	for y := range g.N {
		from, to, _ := shape.Run(s, g.N, y)
		for x := from; x < to; x++ {
			g.Cells[y*g.N+x] += s.Worth
		}
	}
}
