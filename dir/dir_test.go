package dir_test

import (
	"math"
	"slices"
	"testing"

	"penumbra/api"
	"penumbra/dir"
	"penumbra/sample"
)

// P6.1: the chapter's examples.
func TestExamples(t *testing.T) {
	for _, c := range []struct {
		p, q int
		want api.Dir
		e    api.Errno
	}{
		{-4, -6, api.Dir{P: 2, Q: 3}, api.OK}, {5, 0, api.Dir{P: 1}, api.OK}, {0, -7, api.Dir{Q: 1}, api.OK},
		{17, 1, api.Dir{}, api.ErrDir}, {34, 2, api.Dir{}, api.ErrDir}, {0, 0, api.Dir{}, api.ErrArg},
	} {
		if d, e := dir.Normal(c.p, c.q); d != c.want || e != c.e {
			t.Errorf("Normal(%d, %d): %v, error %d", c.p, c.q, d, e)
		}
	}
	if l, e := dir.All(1); !slices.Equal(right(t, l, e), []api.Dir{{P: 1}, {P: 1, Q: 1}, {Q: 1}, {P: -1, Q: 1}}) {
		t.Errorf("All: %v", l)
	}
	if n, e := dir.Bins(3, api.Dir{P: 1, Q: 2}); right(t, n, e) != 7 {
		t.Errorf("Bins: %d", n)
	}
	if j, e := dir.Index(3, api.Dir{P: 1, Q: 2}, 0, 0); right(t, j, e) != 2 {
		t.Errorf("Index: %d", j)
	}
	if j, e := dir.Index(3, api.Dir{P: -1, Q: 2}, 0, 0); right(t, j, e) != 0 {
		t.Errorf("Index: %d", j)
	}
	if c, e := dir.Line(3, api.Dir{P: 1, Q: 1}, 2); !slices.Equal(right(t, c, e), []api.Cell{{}, {X: 1, Y: 1}, {X: 2, Y: 2}}) {
		t.Errorf("Line: %v", c)
	}
	// The chapter's examples say that this line holds none, but its rule puts the cell (0, 1) on it (2*0 - 1*1 + 2), and each cell lies on a line (P6.3).
	if c, e := dir.Line(3, api.Dir{P: 1, Q: 2}, 1); !slices.Equal(right(t, c, e), []api.Cell{{Y: 1}}) {
		t.Errorf("Line: %v", c)
	}
	if d, e := dir.Across(api.Dir{P: 1, Q: 2}); right(t, d, e) != (api.Dir{P: -2, Q: 1}) {
		t.Errorf("Across: %v", d)
	}
	three := []api.Dir{{P: 1}, {P: 1, Q: 1}, {P: -1, Q: 1}}
	if ok, e := dir.Katz(3, three); !right(t, ok, e) {
		t.Error("Katz of three")
	}
	if ok, e := dir.Katz(3, three[:2]); right(t, ok, e) {
		t.Error("Katz of two")
	}
}

// P6.1: all steps within the limits and two beyond them, and steps of any size.
func TestCheck(t *testing.T) {
	for p := -18; p <= 18; p++ {
		for q := -18; q <= 18; q++ {
			want := api.ErrDir
			if sample.IsDir(api.Dir{P: p, Q: q}) {
				want = api.OK
			}
			if e := dir.Check(api.Dir{P: p, Q: q}); e != want {
				t.Errorf("(%d, %d): error %d", p, q, e)
			}
		}
	}
	for _, d := range sample.Dirs() {
		if e := dir.Check(d); e != api.OK {
			t.Errorf("%v: error %d", d, e)
		}
	}
	for _, d := range sample.NoDirs() {
		if e := dir.Check(d); e != api.ErrDir {
			t.Errorf("%v: error %d", d, e)
		}
	}
}

// P6.1: the direction on a line through the origin, at all numbers.
func TestNormal(t *testing.T) {
	all := forms(16)
	for _, c := range pairs() {
		want, err := normal(c[0], c[1], all)
		if d, e := dir.Normal(c[0], c[1]); d != want || e != err {
			t.Errorf("(%d, %d): %v, error %d, not %v, error %d", c[0], c[1], d, e, want, err)
		}
	}
}

// P6.1: great numbers whose directions are written out; the greatest int is 7 times 7 times 73 times 127 and more.
func TestNormalWrittenOut(t *testing.T) {
	for _, c := range []struct {
		p, q int
		want api.Dir
	}{
		{math.MinInt, math.MinInt, api.Dir{P: 1, Q: 1}}, {math.MinInt, 0, api.Dir{P: 1}}, {math.MaxInt, 0, api.Dir{P: 1}}, {0, math.MinInt, api.Dir{Q: 1}}, {0, math.MaxInt, api.Dir{Q: 1}},
		{math.MaxInt, math.MaxInt, api.Dir{P: 1, Q: 1}}, {-math.MaxInt, math.MaxInt, api.Dir{P: -1, Q: 1}}, {math.MaxInt, -math.MaxInt, api.Dir{P: -1, Q: 1}},
		{math.MinInt, 1 << 62, api.Dir{P: -2, Q: 1}}, {math.MinInt, -1 << 62, api.Dir{P: 2, Q: 1}}, {1 << 62, math.MinInt, api.Dir{P: -1, Q: 2}}, {-1 << 62, math.MinInt, api.Dir{P: 1, Q: 2}},
		{math.MinInt, 1 << 59, api.Dir{P: -16, Q: 1}}, {math.MinInt, -1 << 59, api.Dir{P: 16, Q: 1}}, {1 << 59, math.MinInt, api.Dir{P: -1, Q: 16}}, {math.MinInt, -15 << 59, api.Dir{P: 16, Q: 15}},
		{math.MaxInt, math.MaxInt / 7, api.Dir{P: 7, Q: 1}}, {math.MaxInt / 7 * 3, -math.MaxInt, api.Dir{P: -3, Q: 7}},
	} {
		if d, e := dir.Normal(c.p, c.q); d != c.want || e != api.OK {
			t.Errorf("(%d, %d): %v, error %d", c.p, c.q, d, e)
		}
	}
	for _, c := range [][2]int{{math.MinInt, math.MaxInt}, {math.MaxInt, math.MinInt}, {math.MinInt, 1 << 58}, {1 << 58, math.MinInt}, {math.MaxInt, 1}, {1, math.MinInt}, {math.MinInt, math.MinInt + 1}, {17, 16}, {16, 17}, {-17, 1}, {17, -1}, {1, 17}, {1, -17}, {272, 16}, {-16, 272}} {
		d, e := dir.Normal(c[0], c[1])
		refused(t, "Normal", d, e, api.ErrDir)
	}
}

// P6.1: the order of every two directions, of the same one, and of what is none.
func TestCmp(t *testing.T) {
	all := forms(16)
	for i, a := range all {
		for j, b := range all {
			want := 0
			if i < j {
				want = -1
			} else if i > j {
				want = 1
			}
			if got := dir.Cmp(a, b); got != want {
				t.Fatalf("%v, %v: %d, not %d", a, b, got, want)
			}
		}
	}
	for _, none := range sample.NoDirs() {
		for _, d := range append(sample.Dirs(), sample.NoDirs()...) {
			if got := dir.Cmp(none, d); got != 0 {
				t.Errorf("%v, %v: %d", none, d, got)
			}
			if got := dir.Cmp(d, none); got != 0 {
				t.Errorf("%v, %v: %d", d, none, got)
			}
		}
	}
}

// P6.1: all directions of every number of steps.
func TestAll(t *testing.T) {
	// Four times as many as there are fractions with 1 to k below the line, from 0 on, below 1.
	many := []int{4, 8, 16, 24, 40, 48, 72, 88, 112, 128, 168, 184, 232, 256, 288, 320}
	for k := 1; k <= 16; k++ {
		got, e := dir.All(k)
		if !slices.Equal(right(t, got, e), forms(k)) || len(got) != many[k-1] {
			t.Errorf("%d steps: %v", k, got)
		}
	}
	two := []api.Dir{{P: 1}, {P: 2, Q: 1}, {P: 1, Q: 1}, {P: 1, Q: 2}, {Q: 1}, {P: -1, Q: 2}, {P: -1, Q: 1}, {P: -2, Q: 1}}
	if got, e := dir.All(2); !slices.Equal(right(t, got, e), two) {
		t.Errorf("2 steps: %v", got)
	}
	for _, k := range append(sample.Ends(), -17, -16, -2, -1, 0, 17, 18, 64) {
		if got, e := dir.All(k); len(got) != 0 || e != api.ErrArg {
			t.Errorf("%d steps: %v, error %d", k, got, e)
		}
	}
}

// P6.1: the direction across, of every direction and of what is none.
func TestAcross(t *testing.T) {
	all := forms(16)
	for _, d := range all {
		want, _ := normal(-d.Q, d.P, all)
		if got, e := dir.Across(d); right(t, got, e) != want {
			t.Errorf("%v: %v, not %v", d, got, want)
		}
	}
	for d, want := range map[api.Dir]api.Dir{
		{P: 1}: {Q: 1}, {Q: 1}: {P: 1}, {P: 1, Q: 1}: {P: -1, Q: 1}, {P: -1, Q: 1}: {P: 1, Q: 1},
		{P: -1, Q: 2}: {P: 2, Q: 1}, {P: 16, Q: 1}: {P: -1, Q: 16}, {P: -16, Q: 1}: {P: 1, Q: 16}, {P: -15, Q: 16}: {P: 16, Q: 15},
	} {
		if got, e := dir.Across(d); right(t, got, e) != want {
			t.Errorf("%v: %v, not %v", d, got, want)
		}
	}
	for _, d := range sample.NoDirs() {
		got, e := dir.Across(d)
		refused(t, "Across", got, e, api.ErrDir)
	}
}
