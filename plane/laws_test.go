package plane_test

import (
	"testing"

	"penumbra/api"
	"penumbra/cx"
	"penumbra/plane"
	"penumbra/root"
	"penumbra/sample"
	"penumbra/wave"
)

// P4.2: whole cells come back.
func TestThereAndBack(t *testing.T) {
	for _, n := range sides() {
		for _, f := range fields(n, sample.Wholes) {
			g := of(t, plane.Back, of(t, plane.Forward, f))
			check(t, "there and back", wave.Whole(g.Cells), f.Cells)
		}
	}
}

// P4.2: the cell (0, 0) is the very sum, worked out in whole numbers.
func TestFirstIsTheSum(t *testing.T) {
	for _, n := range sides() {
		for _, f := range fields(n, sample.Wholes) {
			var p, q int64
			for _, a := range f.Cells {
				p += int64(real(a))
				q += int64(imag(a))
			}
			if got := of(t, plane.Forward, f).Cells[0]; got != complex(float64(p), float64(q)) {
				t.Fatalf("side %d: %v, not %d and %d", n, got, p, q)
			}
		}
	}
}

// P4.2: rows and columns may be exchanged ahead of the transform or behind it.
func TestExchanged(t *testing.T) {
	for _, n := range sides() {
		for _, f := range fields(n, sample.Wholes) {
			g := of(t, plane.Forward, of(t, plane.Across, f))
			h := of(t, plane.Across, of(t, plane.Forward, f))
			for j := range g.Cells {
				if far := cx.Far(g.Cells[j], h.Cells[j]); !(far <= 0x1p-8) {
					t.Fatalf("side %d, at %d: %v far", n, j, far)
				}
			}
		}
	}
}

// turned: every cell times a power of i.
func turned(f api.Grid, k int) api.Grid {
	cells := make([]complex128, len(f.Cells))
	for j, a := range f.Cells {
		cells[j] = cx.Turn(a, k)
	}
	return api.Grid{N: f.N, Cells: cells}
}

// P4.3: a turned field has its transform turned, noughts whatever their signs.
func TestTurned(t *testing.T) {
	for _, n := range sides() {
		for _, f := range fields(n, sample.Finite) {
			whole := of(t, plane.Forward, f)
			for k := 1; k <= 3; k++ {
				got, want := of(t, plane.Forward, turned(f, k)), turned(whole, k)
				for j := range want.Cells {
					if got.Cells[j] != want.Cells[j] {
						t.Fatalf("side %d, %d turns, at %d: %s, not %s", n, k, j, cx.Text(got.Cells[j]), cx.Text(want.Cells[j]))
					}
				}
			}
		}
	}
}

// moves: all of a small side, and some that go round, either way.
func moves(n int) []api.Step {
	out := []api.Step{{X: 1, Y: 0}, {X: 0, Y: 1}, {X: 3, Y: -1}, {X: -1, Y: 2}, {X: n / 2, Y: n - 1}, {X: n, Y: -n}, {X: 5*n + 1, Y: -7*n - 3}, {X: -1000003, Y: 999983}}
	for y := range min(n, 4) {
		for x := range min(n, 4) {
			out = append(out, api.Step{X: x, Y: y})
		}
	}
	return out
}

// P4.4: what a field that is moved round has for its transform.
func TestMovedRound(t *testing.T) {
	for _, n := range sides() {
		all := fields(n, sample.Wholes)
		for _, f := range append(all[1:3:3], all[len(all)-2:]...) {
			whole := of(t, plane.Forward, f)
			for _, m := range moves(n) {
				g := of(t, plane.Forward, moved(f, m.X, m.Y))
				for y := range n {
					for x := range n {
						turn, _ := root.Root(n, x*m.X+y*m.Y)
						want := cx.Mul(whole.Cells[y*n+x], cx.Conj(turn))
						if far := cx.Far(g.Cells[y*n+x], want); !(far <= 0x1p-4) {
							t.Fatalf("side %d, moved by %v, at (%d, %d): %v far", n, m, x, y, far)
						}
					}
				}
			}
		}
	}
}
