package phantom_test

import (
	"testing"

	"penumbra/api"
)

// sides: the edges, and ordinary ones, odd and even.
func sides() []int { return []int{1, 2, 3, 8, 13, 63, 64} }

// refused: with that error, and nothing beside it.
func refused(t *testing.T, name string, empty bool, e, want api.Errno) {
	t.Helper()
	if e != want || !empty {
		t.Errorf("%s: error %d, not %d, or something beside it", name, e, want)
	}
}

func noGrid(g api.Grid) bool { return g.N == 0 && len(g.Cells) == 0 }

func noPhantom(p api.Phantom) bool { return p.N == 0 && len(p.Shapes) == 0 }

// right: what was answered without an error.
func right[T any](t *testing.T, got T, e api.Errno) T {
	t.Helper()
	if e != api.OK {
		t.Fatalf("error %d", e)
	}
	return got
}
