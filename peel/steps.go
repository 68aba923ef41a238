package peel

import (
	"container/heap"
	"slices"

	"penumbra/api"
	"penumbra/dir"
)

// A place is where a bin stands: in which projection, and its number there.
type place struct{ proj, bin int }

// queue is a heap of places, on top the one of the first projection, and of its bins the least.
type queue []place

func (q queue) Len() int { return len(q) }

func (q queue) Less(i, j int) bool {
	if q[i].proj != q[j].proj {
		return q[i].proj < q[j].proj
	}
	return q[i].bin < q[j].bin
}

func (q queue) Swap(i, j int) { q[i], q[j] = q[j], q[i] }

func (q *queue) Push(x any) { *q = append(*q, x.(place)) }

func (q *queue) Pop() any {
	last := len(*q) - 1
	at := (*q)[last]
	*q = (*q)[:last]
	return at
}

// A line is how many of its cells are open, and what their numbers add up to: of just one that is its number.
type line struct{ open, sum int }

// A peeling is a grid whose cells are being closed one by one.
type peeling struct {
	n     int
	dirs  []api.Dir
	first []int // by direction, the number of the first cell's line
	lines [][]line
	open  []bool
	ready queue // each bin that has come to just one open cell; that one may be closed by now
}

// untouched: all cells are open. It takes a side and directions that were looked at.
func untouched(n int, dirs []api.Dir) *peeling {
	p := &peeling{n: n, dirs: dirs, open: slices.Repeat([]bool{true}, n*n)}
	for _, d := range dirs {
		first, _ := dir.Index(n, d, 0, 0)
		many, _ := dir.Bins(n, d)
		p.first, p.lines = append(p.first, first), append(p.lines, make([]line, many))
	}
	for cell := range p.open {
		p.eachBin(cell, func(at place) { p.count(at, 1, cell) })
	}
	for proj, lines := range p.lines {
		for bin := range lines {
			p.look(place{proj, bin})
		}
	}
	return p
}

// eachBin hands on the bins on whose lines the cell lies, one of each projection.
func (p *peeling) eachBin(cell int, do func(at place)) {
	x, y := cell%p.n, cell/p.n
	for proj, d := range p.dirs {
		// A step to the right leads Q lines on, one down leads P lines back.
		do(place{proj, p.first[proj] + d.Q*x - d.P*y})
	}
}

// count takes in so many open cells, whose numbers add up to the sum.
func (p *peeling) count(at place, many, sum int) {
	l := &p.lines[at.proj][at.bin]
	l.open += many
	l.sum += sum
}

// look puts a bin with just one open cell into the queue. None comes to that twice, since no cell is opened again.
func (p *peeling) look(at place) {
	if p.lines[at.proj][at.bin].open == 1 {
		heap.Push(&p.ready, at)
	}
}

// steps goes through the peeling: the bin that is taken, and its open cell, which is closed when the step is done.
func (p *peeling) steps(yield func(at place, cell int) bool) {
	for p.ready.Len() > 0 {
		at := heap.Pop(&p.ready).(place)
		l := p.lines[at.proj][at.bin]
		if l.open == 0 { // by a step along another direction
			continue
		}
		if !yield(at, l.sum) {
			return
		}
		p.close(l.sum)
	}
}

func (p *peeling) close(cell int) {
	p.open[cell] = false
	p.eachBin(cell, func(at place) {
		p.count(at, -1, -cell)
		p.look(at)
	})
}
