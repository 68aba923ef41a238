package back

import (
	"iter"
	"sync"

	"penumbra/api"
)

// A tile is the cells from one to another, both ends in.
type tile struct{ from, to api.Cell }

func (t tile) count() int { return (t.to.X - t.from.X + 1) * (t.to.Y - t.from.Y + 1) }

// cells goes through them row by row.
func (t tile) cells() iter.Seq[api.Cell] {
	return func(yield func(api.Cell) bool) {
		for y := t.from.Y; y <= t.to.Y; y++ {
			for x := t.from.X; x <= t.to.X; x++ {
				if !yield(api.Cell{X: x, Y: y}) {
					return
				}
			}
		}
	}
}

// send hands out every tile once, and tells by closing that there are no more.
func send(n, side int, tiles chan<- tile) {
	for y := 0; y < n; y += side {
		for x := 0; x < n; x += side {
			to := api.Cell{X: min(x+side, n) - 1, Y: min(y+side, n) - 1}
			tiles <- tile{api.Cell{X: x, Y: y}, to}
		}
	}
	close(tiles)
}

// byWorkers: no cell lies in two tiles, and a worker writes only at the cells of a tile that it got, so the answer is the same whoever got which.
func byWorkers(n int, all []strip, side, workers int) api.Grid {
	field := api.Grid{N: n, Cells: make([]complex128, n*n)}
	tiles := make(chan tile)
	var group sync.WaitGroup
	for range workers {
		group.Add(1)
		go func() {
			defer group.Done()
			for t := range tiles {
				for c := range t.cells() {
					field.Cells[c.Y*n+c.X] = sum(all, c)
				}
			}
		}()
	}
	send(n, side, tiles)
	group.Wait()
	return field
}
