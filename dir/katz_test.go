package dir_test

import (
	"testing"

	"penumbra/api"
	"penumbra/dir"
	"penumbra/sample"
)

// wide: different directions whose |P| come to just sum, with a Q of 1 each, so that those come to less.
func wide(sum int) []api.Dir {
	var out []api.Dir
	for step := 16; step >= 1; step-- {
		for _, p := range []int{-step, step} {
			if step <= sum {
				out = append(out, api.Dir{P: p, Q: 1})
				sum -= step
			}
		}
	}
	return out
}

// high: P and Q exchanged, so that the Q come to just sum.
func high(sum int) []api.Dir {
	out := wide(sum)
	for j, d := range out {
		out[j] = api.Dir{P: d.Q, Q: d.P}
		if d.P < 0 {
			out[j] = api.Dir{P: -d.Q, Q: -d.P}
		}
	}
	return out
}

func sums(dirs []api.Dir) (across, down int) {
	for _, d := range dirs {
		across += max(d.P, -d.P)
		down += d.Q
	}
	return across, down
}

// P6.1: directions whose |P| or whose Q come to just n, and to one less, for every n.
func TestKatzEdges(t *testing.T) {
	for n := 1; n <= 64; n++ {
		for name, list := range map[string]func(int) []api.Dir{"|P|": wide, "Q": high} {
			enough, few := list(n), list(n-1)
			if across, down := sums(enough); max(across, down) != n || n > 1 && min(across, down) >= n {
				t.Fatalf("the sample is not one: %v", enough)
			}
			if ok, e := dir.Katz(n, enough); !right(t, ok, e) {
				t.Errorf("side %d, their %s just enough: %v", n, name, enough)
			}
			if ok, e := dir.Katz(n, few); right(t, ok, e) {
				t.Errorf("side %d, their %s one too few: %v", n, name, few)
			}
		}
	}
}

// P6.1: no direction, one, and as many as there are.
func TestKatz(t *testing.T) {
	for n := 1; n <= 64; n++ {
		for _, none := range [][]api.Dir{nil, {}} {
			if ok, e := dir.Katz(n, none); right(t, ok, e) {
				t.Errorf("side %d, no direction", n)
			}
		}
		for _, d := range forms(16) {
			if ok, e := dir.Katz(n, []api.Dir{d}); right(t, ok, e) != (d.P >= n || -d.P >= n || d.Q >= n) {
				t.Errorf("side %d, %v: %v", n, d, ok)
			}
		}
		for k := 1; k <= 16; k++ {
			across, down := sums(forms(k))
			if ok, e := dir.Katz(n, forms(k)); right(t, ok, e) != (across >= n || down >= n) {
				t.Errorf("side %d, all of %d steps: %v", n, k, ok)
			}
		}
	}
	// |P| and Q are not added to each other, and P to the left does not take from P to the right.
	for _, c := range []struct {
		n    int
		dirs []api.Dir
		want bool
	}{
		{2, []api.Dir{{P: 1, Q: 1}}, false}, {3, []api.Dir{{P: 2, Q: 1}}, false}, {3, []api.Dir{{P: 1}, {P: 1, Q: 1}}, false},
		{2, []api.Dir{{P: 1}, {Q: 1}}, false}, {1, []api.Dir{{P: 1}}, true}, {1, []api.Dir{{Q: 1}}, true},
		{6, []api.Dir{{P: 3, Q: 1}, {P: -3, Q: 1}}, true}, {7, []api.Dir{{P: 3, Q: 1}, {P: -3, Q: 1}}, false}, {3, []api.Dir{{P: -3, Q: 1}}, true},
	} {
		if ok, e := dir.Katz(c.n, c.dirs); right(t, ok, e) != c.want {
			t.Errorf("side %d, %v: %v", c.n, c.dirs, ok)
		}
	}
}

// P6.1: the first fault in the list is told, also behind directions that are enough; a side that is none ahead of all.
func TestKatzRefused(t *testing.T) {
	one, other, none, far := api.Dir{P: 1}, api.Dir{P: -16, Q: 15}, api.Dir{P: 2, Q: 2}, api.Dir{P: 17, Q: 1}
	for _, c := range []struct {
		dirs []api.Dir
		want api.Errno
	}{
		{[]api.Dir{none}, api.ErrDir}, {[]api.Dir{far}, api.ErrDir}, {[]api.Dir{{}}, api.ErrDir},
		{[]api.Dir{one, one}, api.ErrTwice}, {[]api.Dir{other, one, other}, api.ErrTwice}, {[]api.Dir{one, other, {Q: 1}, other}, api.ErrTwice},
		{[]api.Dir{none, none}, api.ErrDir}, {[]api.Dir{{P: 1, Q: 1}, none}, api.ErrDir}, {[]api.Dir{one, {P: -1}}, api.ErrDir},
		{[]api.Dir{one, one, none}, api.ErrTwice}, {[]api.Dir{none, one, one}, api.ErrDir}, {[]api.Dir{one, none, one}, api.ErrDir},
		{[]api.Dir{one, one, far}, api.ErrTwice}, {[]api.Dir{far, one, one}, api.ErrDir},
		{append(forms(16), one), api.ErrTwice}, {append(forms(16), none), api.ErrDir},
	} {
		for _, n := range []int{1, 2, 3, 64} {
			ok, e := dir.Katz(n, c.dirs)
			refused(t, "Katz", ok, e, c.want)
		}
		for _, n := range sample.NoSides() {
			ok, e := dir.Katz(n, c.dirs)
			refused(t, "Katz of no side", ok, e, api.ErrArg)
		}
	}
	for _, d := range sample.NoDirs() {
		ok, e := dir.Katz(3, []api.Dir{other, d, other})
		refused(t, "Katz of no direction", ok, e, api.ErrDir)
	}
	for _, n := range sample.NoSides() {
		for _, dirs := range [][]api.Dir{nil, {one}, forms(4)} {
			ok, e := dir.Katz(n, dirs)
			refused(t, "Katz of no side", ok, e, api.ErrArg)
		}
	}
	for j, d := range forms(16) { // wherever the first of the two stands
		ok, e := dir.Katz(64, append(forms(16), d))
		refused(t, "Katz of all and one of them", ok, e, api.ErrTwice)
		// What stands in the spare room is not in the list.
		if ok, e := dir.Katz(1, append(forms(16), d)[:j+1]); e != api.OK || !ok {
			t.Errorf("the first %d directions: %v, error %d", j+1, ok, e)
		}
	}
}
