package shape

import "penumbra/api"

// A form is what each kind of shape tells of its own; the errors, the grid and its rows are the same for all kinds.
type form interface {
	// measured: are A and B such as its kind has?
	measured() bool
	// holds takes near places only, so that no product goes beyond an int.
	holds(x, y int) bool
	// along: the steps of a line at which it holds the cell.
	along(l line) span
}

type (
	rect  api.Shape
	disc  api.Shape
	wedge api.Shape
)

func formOf(s api.Shape) (form, api.Errno) {
	var f form
	switch s.Kind {
	case api.Rect:
		f = rect(s)
	case api.Disc:
		f = disc(s)
	case api.Wedge:
		f = wedge(s)
	default:
		return nil, api.ErrShape
	}
	if !isPlace(s.X) || !isPlace(s.Y) || !f.measured() {
		return nil, api.ErrShape
	}
	return f, api.OK
}

// look has the errors that all calls about a grid begin with, in their order.
func look(s api.Shape, n int) (form, api.Errno) {
	f, err := formOf(s)
	if err == api.OK && (n < 1 || n > api.MaxSide) {
		return nil, api.ErrArg
	}
	return f, err
}

func isPlace(a int) bool { return a >= -api.MaxReach && a <= api.MaxReach }

func isMeasure(a int) bool { return a >= 1 && a <= api.MaxReach }

// isNear: no shape holds a cell that is farther away.
func isNear(a int) bool { return a >= -2*api.MaxReach && a <= 2*api.MaxReach }

func (r rect) measured() bool { return isMeasure(r.A) && isMeasure(r.B) }

func (r rect) holds(x, y int) bool {
	return x >= r.X && x < r.X+r.A && y >= r.Y && y < r.Y+r.B
}

func (r rect) along(l line) span {
	right, down := l.x-r.X, l.y-r.Y
	across := notBelow0(l.p, right).meet(notBelow0(-l.p, r.A-1-right))
	return across.meet(notBelow0(l.q, down)).meet(notBelow0(-l.q, r.B-1-down))
}

func (d disc) measured() bool { return d.A >= 0 && d.A <= api.MaxReach*api.MaxReach && d.B == 0 }

func (d disc) holds(x, y int) bool {
	right, down := x-d.X, y-d.Y
	return right*right+down*down <= d.A
}

// along: the square of the distance, times that of a step, is (step*t + ahead)² + aside², and t stands in one of these squares alone.
func (d disc) along(l line) span {
	right, down := l.x-d.X, l.y-d.Y
	step := l.p*l.p + l.q*l.q
	ahead, aside := right*l.p+down*l.q, right*l.q-down*l.p
	rest := step*d.A - aside*aside
	if rest < 0 {
		return span{}
	}
	half := squareRoot(rest)
	return notBelow0(step, half+ahead).meet(notBelow0(-step, half-ahead))
}

func (w wedge) measured() bool { return isMeasure(w.A) && isMeasure(w.B) }

func (w wedge) holds(x, y int) bool {
	return x >= w.X && y >= w.Y && (x-w.X)*w.B+(y-w.Y)*w.A < w.A*w.B
}

func (w wedge) along(l line) span {
	right, down := l.x-w.X, l.y-w.Y
	slanted := notBelow0(-l.p*w.B-l.q*w.A, w.A*w.B-1-right*w.B-down*w.A)
	return slanted.meet(notBelow0(l.p, right)).meet(notBelow0(l.q, down))
}
