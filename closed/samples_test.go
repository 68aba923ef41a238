package closed_test

import (
	"testing"

	"penumbra/api"
	"penumbra/sample"
)

// example: layer 8's.
func example() api.Phantom {
	return sample.Phantom(4, sample.Rect(1, 1, 2, 2, 5-1i), sample.Disc(0, 0, 1, 2))
}

// bare: shapes of every kind that have no cell in a field of view of side n, near its edges and far away.
func bare(n int) api.Phantom {
	return sample.Phantom(n,
		sample.Rect(n, 0, 5, 5, 7), sample.Rect(0, n, 5, 5, -7i), sample.Rect(-5, 0, 5, 64, 65536), sample.Rect(0, -1024, 1024, 1024, -65536),
		sample.Disc(-1, -1, 1, 9), sample.Disc(n, n, 1, -9+2i), sample.Disc(-1, n, 0, 5), sample.Disc(1024, -1024, 1024*1024, 3),
		sample.Wedge(-5, 0, 5, 5, 11), sample.Wedge(-2, -2, 3, 3, -11i), sample.Wedge(n, n-1, 1024, 1024, 65536i), sample.Wedge(1024, 1024, 1024, 1024, 1),
	)
}

// waste: shapes over each other whose worths cancel out in some cells, in some lines, or in all of them.
func waste(n int) []api.Phantom {
	left, right := sample.Rect(0, 0, (n+1)/2, n, 3-2i), sample.Rect(n/2, 0, (n+1)/2, n, -3+2i)
	return []api.Phantom{
		sample.Phantom(n, sample.Rect(0, 0, n, n, -1), sample.Rect(0, 0, n, n, 1)),
		sample.Phantom(n, sample.Disc(n/2, n/2, n, 65536-65536i), sample.Disc(n/2, n/2, n, -65536+65536i)),
		sample.Phantom(n, sample.Wedge(0, 0, n, n, -5i), sample.Wedge(0, 0, n, n, 3i), sample.Wedge(0, 0, n, n, 2i)),
		sample.Phantom(n, left, right),
		sample.Phantom(n, sample.Rect(0, 0, 1, 1, -4), sample.Rect(n-1, n-1, 1, 1, 4)),
		sample.Phantom(n, sample.Rect(0, 0, n, n, -7i), sample.Disc(0, 0, n*n, 7i), sample.Wedge(-1, -1, n, 2*n, 7)),
		sample.Phantom(n, sample.Rect(0, 0, n, n, 0), sample.Disc(0, 0, 4, -1)),
	}
}

// greatest: 16 times the greatest worth in all cells, each sign in both parts.
func greatest(n int) []api.Phantom {
	var out []api.Phantom
	for _, worth := range []complex128{65536, -65536, 65536i, -65536i, 65536 + 65536i, -65536 + 65536i, 65536 - 65536i, -65536 - 65536i} {
		all := make([]api.Shape, 16)
		for i := range all {
			all[i] = []api.Shape{sample.Rect(-i, -1, 1024, 1024, worth), sample.Disc(i, 3, 1024*1024, worth), sample.Wedge(-1, -i, 1024, 1024, worth)}[i%3]
		}
		out = append(out, api.Phantom{N: n, Shapes: all})
	}
	return out
}

// phantoms: sound ones of side n, of every kind.
func phantoms(n int) []api.Phantom {
	out := append(sample.Phantoms(n), bare(n))
	out = append(out, waste(n)...)
	return append(out, greatest(n)...)
}

// dirs: those with an edge about them, and some others at each side; of the greatest sides, which take their time, some of each.
func dirs(n int) []api.Dir {
	out := sample.Wheel()[n : n+4]
	for i, d := range sample.Dirs() {
		if n < 60 || i%3 == n%3 {
			out = append(out, d)
		}
	}
	return out
}

// refused: with that error, and nothing beside it.
func refused(t *testing.T, name string, empty bool, e, want api.Errno) {
	t.Helper()
	if e != want || !empty {
		t.Fatalf("%s: error %d, not %d, or something beside it", name, e, want)
	}
}

func noProj(p api.Proj) bool { return p.Dir == api.Dir{} && len(p.Bins) == 0 }

func noSino(s api.Sino) bool { return s.N == 0 && len(s.Projs) == 0 }

// right: what was answered without an error.
func right[T any](t *testing.T, got T, e api.Errno) T {
	t.Helper()
	if e != api.OK {
		t.Fatalf("error %d", e)
	}
	return got
}
