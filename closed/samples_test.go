package closed_test

import (
	"testing"

	"penumbra/api"
	"penumbra/sample"
)

// example: layer 8's.
func example() api.Phantom {
	return sample.Phantom(4, sample.Rect(1, 1, 2, 2, 5-1i), sample.Disc(0, 0, 1, 2))
}

// dirs: those with an edge about them, and some others at each side; of the greatest sides, which take their time, some of each.
func dirs(n int) []api.Dir {
	out := sample.Wheel()[n : n+4]
	for i, d := range sample.Dirs() {
		if n < 60 || i%3 == n%3 {
			out = append(out, d)
		}
	}
	return out
}

// refused: with that error, and nothing beside it.
func refused(t *testing.T, name string, empty bool, e, want api.Errno) {
	t.Helper()
	if e != want || !empty {
		t.Fatalf("%s: error %d, not %d, or something beside it", name, e, want)
	}
}

func noProj(p api.Proj) bool { return p.Dir == api.Dir{} && len(p.Bins) == 0 }

func noSino(s api.Sino) bool { return s.N == 0 && len(s.Projs) == 0 }

// right: what was answered without an error.
func right[T any](t *testing.T, got T, e api.Errno) T {
	t.Helper()
	if e != api.OK {
		t.Fatalf("error %d", e)
	}
	return got
}
