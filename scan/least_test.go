package scan_test

import (
	"slices"
	"testing"

	"penumbra/api"
	"penumbra/dir"
	"penumbra/sample"
	"penumbra/scan"
)

// P23.1: answers that are written out.
func TestLeastWrittenOut(t *testing.T) {
	rows, columns, right, left := api.Dir{P: 1}, api.Dir{Q: 1}, api.Dir{P: 1, Q: 1}, api.Dir{P: -1, Q: 1}
	for _, c := range []struct {
		n    int
		dirs []api.Dir
		want int
	}{
		{1, nil, -1}, {1, []api.Dir{}, -1}, {1, []api.Dir{rows}, 1}, {1, []api.Dir{columns, rows, left}, 1},
		{2, nil, -1}, {2, []api.Dir{rows}, -1}, {2, []api.Dir{rows, columns}, -1}, {2, []api.Dir{rows, columns, left}, 3}, {2, []api.Dir{right, left, rows}, 2}, {2, []api.Dir{{P: 2, Q: 1}, rows}, 1}, {2, []api.Dir{rows, {P: 1, Q: 2}}, 2},
		{3, []api.Dir{rows, columns, right, left}, 4}, {3, []api.Dir{rows, right, left, columns}, 3}, {3, []api.Dir{rows, right, columns}, -1}, {3, []api.Dir{{P: -16, Q: 15}}, 1},
		{64, sample.Short(), -1}, {64, []api.Dir{{P: 16, Q: 15}, {P: -16, Q: 15}, {P: 15, Q: 16}, {P: -15, Q: 16}}, -1}, {62, []api.Dir{{P: 16, Q: 15}, {P: -16, Q: 15}, {P: 15, Q: 16}, {P: -15, Q: 16}}, 4},
	} {
		checkLeast(t, api.Phantom{N: c.n}, c.dirs, c.want, api.OK)
		checkLeast(t, sample.Phantom(c.n, sample.Many(16)...), c.dirs, c.want, api.OK)
	}
}

// P23.1: at every side, lists whose first are just enough, alone and with more behind them, such that are not, and any.
func TestLeast(t *testing.T) {
	d := sample.Dice(238)
	never, at, wheel := 0, map[int]int{}, sample.Wheel()
	for n := 1; n <= 64; n++ {
		for range 5 {
			p, enough := d.Thing(n), d.Enough(n)
			many := len(enough)
			checkLeast(t, p, enough, many, api.OK)
			checkLeast(t, p, enough[:many-1], -1, api.OK)
			more := sample.Without(wheel, enough)
			checkLeast(t, p, slices.Concat(enough, d.Picked(more, 5)), many, api.OK)
			for _, dirs := range [][]api.Dir{enough, slices.Concat(d.Picked(more, 2), enough), d.Picked(sample.Short(), 1+d.Number(11)), d.Picked(wheel, 1+d.Number(9)), nil} {
				want, e := needed(p, dirs)
				checkLeast(t, p, dirs, want, e)
				at[want]++
				if want < 0 {
					never++
				}
			}
		}
		full := d.Picked(wheel, 64)
		want, e := needed(api.Phantom{N: n}, full)
		checkLeast(t, sample.Phantom(n, sample.Many(16)...), full, want, e)
	}
	if never < 250 || len(at) < 12 {
		t.Errorf("the samples are too much alike: %v", at)
	}
}

// P23.1: it is at the first direction with which layer 6 tells that they determine every grid, and what Run tells of so many, and of one fewer, agrees.
func TestLeastIsEnough(t *testing.T) {
	d := sample.Dice(239)
	for n := 1; n <= 64; n += 1 + n/10 {
		for range 4 {
			p, dirs := d.Within(n), d.Picked(sample.Wheel(), 20)
			many, e := scan.Least(p, dirs)
			if e != api.OK {
				t.Fatalf("side %d, %v: error %d", n, dirs, e)
			}
			for k := range len(dirs) + 1 {
				if enough, _ := dir.Katz(n, dirs[:k]); enough != (many >= 0 && k >= many) {
					t.Fatalf("side %d, %v: %d, but of the first %d %v", n, dirs, many, k, enough)
				}
			}
			for _, k := range []int{max(many-1, 0), max(many, 0)} {
				missing := sample.Count(len(dirs))[k:]
				if r := run(t, p, api.Plan{Dirs: dirs, Missing: missing, Workers: 4}); (r.Open == 0) != (many >= 0 && k >= many) {
					t.Fatalf("side %d, %v: %d, but of the first %d %d are open", n, dirs, many, k, r.Open)
				}
			}
		}
	}
}

// P23.1: 64 directions of few steps, so that many are needed; rows and columns alone are never enough.
func TestLeastOfMany(t *testing.T) {
	// Those of the least steps: they are enough late.
	slow := slices.SortedStableFunc(slices.Values(sample.Wheel()), func(a, b api.Dir) int {
		return max(a.P, -a.P) + a.Q - max(b.P, -b.P) - b.Q
	})
	for n := 1; n <= 64; n++ {
		want, e := needed(api.Phantom{N: n}, slow[:64])
		checkLeast(t, api.Phantom{N: n}, slow[:64], want, e)
		if n > 1 {
			checkLeast(t, api.Phantom{N: n}, []api.Dir{{P: 1}, {Q: 1}}, -1, api.OK)
		}
	}
	if most, _ := scan.Least(api.Phantom{N: 64}, slow[:64]); most < 20 {
		t.Errorf("%d are enough", most)
	}
}

// P23.1: phantoms that are none, ahead of all faults of directions; too many of these, then the first that is none or stands twice.
func TestLeastRefused(t *testing.T) {
	dirFlaws, good := sample.DirFlaws(), fine()
	for i, flaw := range sample.Flaws() {
		for _, dirs := range [][]api.Dir{good[i%len(good)], dirFlaws[i%len(dirFlaws)].Dirs, dirFlaws[i%25].Dirs} {
			checkLeast(t, flaw.Phantom, dirs, 0, flaw.Want)
		}
	}
	for _, flaw := range dirFlaws {
		for _, p := range []api.Phantom{half(), {N: 1}, sample.Phantom(64, sample.Many(16)...)} {
			checkLeast(t, p, flaw.Dirs, 0, flaw.Want)
		}
	}
	// A fault counts also behind those that are enough.
	enough := []api.Dir{{P: 16, Q: 15}, {P: 1}}
	checkLeast(t, half(), enough, 1, api.OK)
	checkLeast(t, half(), append(enough, api.Dir{}), 0, api.ErrDir)
	checkLeast(t, half(), append(enough, enough[1]), 0, api.ErrTwice)
}
