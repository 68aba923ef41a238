package peel_test

import (
	"slices"
	"testing"

	"penumbra/api"
	"penumbra/dir"
	"penumbra/sample"
)

// P14.1: answers that are written out.
func TestOpenWrittenOut(t *testing.T) {
	const o, x = true, false
	rows, columns, right, left := api.Dir{P: 1}, api.Dir{Q: 1}, api.Dir{P: 1, Q: 1}, api.Dir{P: -1, Q: 1}
	for _, c := range []struct {
		n    int
		dirs []api.Dir
		want []bool
	}{
		{1, nil, []bool{o}}, {1, []api.Dir{rows}, []bool{x}}, {1, []api.Dir{{P: -16, Q: 15}}, []bool{x}}, {1, []api.Dir{rows, columns}, []bool{x}},
		{2, nil, []bool{o, o, o, o}}, {2, []api.Dir{rows}, []bool{o, o, o, o}}, {2, []api.Dir{right}, []bool{o, x, x, o}}, {2, []api.Dir{left}, []bool{x, o, o, x}}, {2, []api.Dir{right, left}, []bool{x, x, x, x}}, {2, []api.Dir{{P: 2, Q: 1}}, []bool{x, x, x, x}}, {2, []api.Dir{columns, right}, []bool{x, x, x, x}},
		{3, []api.Dir{right}, []bool{o, o, x, o, o, o, x, o, o}}, {3, []api.Dir{right, left}, []bool{x, o, x, o, x, o, x, o, x}}, {3, []api.Dir{rows, right}, []bool{o, o, x, o, o, o, x, o, o}}, {3, []api.Dir{right, left, rows}, []bool{x, x, x, x, x, x, x, x, x}},
		{3, []api.Dir{{P: 2, Q: 1}}, []bool{o, x, x, o, x, o, x, x, o}}, {3, []api.Dir{{P: -1, Q: 2}}, []bool{x, o, o, x, x, x, o, o, x}}, {3, []api.Dir{{P: 2, Q: 1}, {P: -2, Q: 1}}, []bool{x, x, x, x, x, x, x, x, x}}, {3, []api.Dir{{P: 3, Q: 1}}, []bool{x, x, x, x, x, x, x, x, x}},
		{4, []api.Dir{rows, columns}, slices.Repeat([]bool{o}, 16)},
		{4, []api.Dir{right, left}, []bool{x, o, o, x, o, o, o, o, o, o, o, o, x, o, o, x}},
		{4, []api.Dir{rows, columns, right, left}, []bool{x, o, o, x, o, o, o, o, o, o, o, o, x, o, o, x}}, {4, []api.Dir{rows, right, left, {P: 1, Q: 2}}, slices.Repeat([]bool{x}, 16)}, {4, []api.Dir{rows, columns, right}, []bool{o, o, o, x, o, o, o, o, o, o, o, o, x, o, o, o}},
	} {
		checkOpen(t, c.n, c.dirs, c.want)
		if !slices.Equal(stays(c.n, c.dirs, first()), c.want) {
			t.Errorf("side %d, %v: plain peeling leaves %v", c.n, c.dirs, stays(c.n, c.dirs, first()))
		}
	}
}

// P14.1: held against plain peeling: all lists of short directions on small sides, some on others.
func TestOpen(t *testing.T) {
	none, all, some := 0, 0, 0
	tell := func(n int, dirs []api.Dir) {
		switch checkOpen(t, n, dirs, stays(n, dirs, first())) {
		case 0:
			none++
		case n * n:
			all++
		default:
			some++
		}
	}
	for n := 1; n <= 7; n++ {
		for _, dirs := range subsets(sample.Short()[:8]) {
			tell(n, dirs)
		}
	}
	for n := 8; n <= 20; n++ {
		for _, dirs := range small() {
			tell(n, dirs)
		}
	}
	for _, n := range []int{31, 32, 47, 63, 64} {
		for _, dirs := range [][]api.Dir{sample.Dirs()[:n%8+3], sample.Dirs()[10:14], sample.Wheel()[n : n+5], {{P: -16, Q: 15}}} {
			tell(n, dirs)
		}
	}
	if min(none, all, some) < 80 {
		t.Errorf("the samples are too much alike: none %d, all %d, some %d times", none, all, some)
	}
}

// P14.1: no direction leaves all cells open, one whose steps are beyond the side leaves none.
func TestOpenEdges(t *testing.T) {
	for n := 1; n <= 64; n++ {
		checkOpen(t, n, nil, opened(n))
		checkOpen(t, n, []api.Dir{}, opened(n))
		if n > 1 {
			checkOpen(t, n, []api.Dir{{P: 1}}, opened(n))
			checkOpen(t, n, []api.Dir{{Q: 1}, {P: 1}}, opened(n))
		}
		for _, d := range sample.Dirs() {
			alone := 0
			for cell := range n * n {
				x, y := cell%n, cell/n
				ahead, behind := x+d.P >= 0 && x+d.P < n && y+d.Q < n, x-d.P >= 0 && x-d.P < n && y >= d.Q
				if !ahead && !behind {
					alone++
				}
			}
			want := stays(n, []api.Dir{d}, first())
			if left := checkOpen(t, n, []api.Dir{d}, want); left != n*n-alone {
				t.Fatalf("side %d, %v: %d, not %d", n, d, left, n*n-alone)
			}
		}
	}
	for _, n := range sample.Sides() {
		checkOpen(t, n, sample.Wheel()[n:n+64], make([]bool, n*n))
	}
}

// P14.1: no side of a grid, told ahead of every other fault.
func TestNoSides(t *testing.T) {
	for _, n := range sample.NoSides() {
		for _, dirs := range [][]api.Dir{nil, {}, {{P: 1}}, {{}}, {{P: 1}, {P: 1}}, {{P: -1 << 63, Q: 1}}, sample.Short(), sample.NoDirs(), sample.Wheel(), sample.Wheel()[:65], make([]api.Dir, 65)} {
			noneOpen(t, n, dirs, api.ErrArg)
		}
	}
}

// P14.1: more than 64 whatever they are; then, one after the other, what is no direction and what stands twice, at every place.
func TestFaultyDirs(t *testing.T) {
	for k, f := range sample.DirFlaws() {
		noneOpen(t, []int{1, 2, 3, 17, 64}[k%5], f.Dirs, f.Want)
	}
	for k, d := range sample.NoDirs() {
		for at := range 64 {
			dirs := sample.Wheel()[:64]
			dirs[at] = d
			noneOpen(t, 1+(k+at)%64, dirs, api.ErrDir)
			if at > 1 {
				dirs[1] = dirs[0]
				noneOpen(t, 1+(k+at)%64, dirs, api.ErrTwice)
			}
		}
	}
	// 64 are not too many, and the room behind them doesn't count.
	checkOpen(t, 3, sample.Wheel()[:64], make([]bool, 9))
}

// P14.4: every order of peeling on small sides comes to the same cells, which are those of all sets that no line has just one cell of.
func TestEveryOrder(t *testing.T) {
	short, _ := dir.All(2)
	for n := 1; n <= 3; n++ {
		for _, dirs := range subsets(short) {
			checkEnds(t, n, dirs)
		}
	}
	for _, dirs := range append(subsets(sample.Short()[:5]), small()[16:40]...) {
		checkEnds(t, 4, dirs)
	}
}

func checkEnds(t *testing.T, n int, dirs []api.Dir) {
	t.Helper()
	want := fast(n, dirs)
	if all := ends(n, dirs); len(all) != 1 || all[0] != want {
		t.Fatalf("side %d, %v: it comes to %b, not to %b alone", n, dirs, all, want)
	}
	open := make([]bool, n*n)
	for cell := range open {
		open[cell] = want>>cell&1 == 1
	}
	checkOpen(t, n, dirs, open)
	if asSet(open) != want {
		t.Fatal("the cells are no set")
	}
}

// P14.4: greater sides, by other choices of what is peeled first.
func TestOtherChoices(t *testing.T) {
	d := sample.Dice(146)
	for k, dirs := range small() {
		for _, n := range []int{5 + k%4, 9 + k%5} {
			for _, c := range []choice{last(), anyOf(&d), anyOf(&d)} {
				checkOpen(t, n, dirs, stays(n, dirs, c))
			}
		}
	}
}
