package scan_test

import (
	"slices"
	"testing"

	"penumbra/api"
	"penumbra/dir"
	"penumbra/peel"
	"penumbra/phantom"
	"penumbra/ray"
	"penumbra/sample"
)

// P23.2: Sino is what rays tell of the Raster along the directions that aren't missing, in their order and of its side, whatever the steps and the workers are; the Grid is the Raster where no cell is open, and none where one is.
func TestTheWholeOfIt(t *testing.T) {
	d := sample.Dice(240)
	whole, none, runs := 0, 0, 0
	for n := 1; n <= 64; n++ {
		for _, dirs := range d.Fans(n) {
			for _, missing := range [][]int{nil, d.Some(len(dirs))} {
				p := d.Thing(n)
				raster, _ := phantom.Raster(p)
				steps := [][]api.Step{nil, make([]api.Step, len(dirs)), hushed(d.Walk(raster, len(dirs)), missing, &d)}[runs%3]
				runs++
				plan := api.Plan{Dirs: dirs, Missing: missing, Steps: steps, Workers: 1 + runs%16}
				r := run(t, p, plan)
				byRays, e := ray.All(raster, others(plan), 1+runs%5)
				if e != api.OK || !sample.SameSino(r.Sino, byRays) {
					t.Fatalf("%s: not what rays tell, error %d", about(p, plan), e)
				}
				if r.Sino.N != n || len(r.Sino.Projs)+len(r.Left) != len(dirs) {
					t.Fatalf("%s: side %d, %d projections", about(p, plan), r.Sino.N, len(r.Sino.Projs))
				}
				want := raster
				whole++
				if r.Open > 0 {
					want = api.Grid{}
					whole, none = whole-1, none+1
				}
				if !sample.SameField(r.Grid, want) {
					t.Fatalf("%s: %d are open, and the grid is %s, not %s", about(p, plan), r.Open, sample.About(r.Grid), sample.About(want))
				}
			}
		}
	}
	if min(whole, none) < 150 {
		t.Errorf("the samples are too much alike: %d grids, %d without one", whole, none)
	}
}

// P23.2: the same report without steps and with any that lose nothing, by any workers.
func TestMotionDoesNotShow(t *testing.T) {
	d := sample.Dice(241)
	for _, n := range []int{1, 2, 3, 6, 11, 24, 47, 64} {
		for range 4 {
			p, dirs := d.Within(n), d.Enough(n)
			raster, _ := phantom.Raster(p)
			missing := d.Some(len(dirs))
			want := run(t, p, api.Plan{Dirs: dirs, Missing: missing, Workers: 1})
			for workers := 1; workers <= 16; workers++ {
				told(t, p, api.Plan{Dirs: dirs, Missing: missing, Steps: d.Walk(raster, len(dirs)), Workers: workers}, want, api.OK)
			}
		}
	}
}

// P23.1: Left has the missing directions in order, and Enough and Open are what layers 6 and 14 tell of the others, whatever the phantom is.
func TestLeftEnoughOpen(t *testing.T) {
	d := sample.Dice(242)
	for n := 1; n <= 64; n++ {
		for range 6 {
			dirs := d.Picked(sample.Wheel(), 1+d.Number(12))
			plan := api.Plan{Dirs: dirs, Missing: d.Some(len(dirs)), Workers: 3}
			var left []api.Dir
			for _, place := range plan.Missing {
				left = append(left, dirs[place])
			}
			enough, _ := dir.Katz(n, others(plan))
			open, _ := peel.Left(n, others(plan))
			for _, p := range []api.Phantom{d.Thing(n), {N: n}} {
				r := run(t, p, plan)
				if !slices.Equal(r.Left, left) || r.Enough != enough || r.Open != open {
					t.Fatalf("%s: %v left, %v, %d open, not %v, %v, %d", about(p, plan), r.Left, r.Enough, r.Open, left, enough, open)
				}
			}
		}
	}
}

// P23.3: with one place more missing, whichever it is, no fewer cells are open; where it is enough none is.
func TestOneMoreMissing(t *testing.T) {
	d := sample.Dice(243)
	more, same, enough := 0, 0, 0
	look := func(p api.Phantom, plan api.Plan) api.Report {
		r := run(t, p, plan)
		if r.Enough {
			enough++
		}
		if r.Enough && r.Open != 0 || r.Open < 0 || r.Open > p.N*p.N {
			t.Fatalf("%s: %v, but %d are open", about(p, plan), r.Enough, r.Open)
		}
		return r
	}
	for _, n := range []int{1, 2, 3, 4, 5, 8, 13, 20, 33, 64} {
		for k, dirs := range [][]api.Dir{d.Enough(n), d.Picked(sample.Short(), 7), d.Picked(sample.Wheel(), 8), sample.Short()[:6], slices.Concat(d.Enough(n), []api.Dir{{P: 16, Q: 11}})} {
			dirs = slices.Compact(slices.SortedFunc(slices.Values(dirs), dir.Cmp))
			p := d.Within(n)
			for _, missing := range d.Missings(len(dirs)) {
				before := look(p, api.Plan{Dirs: dirs, Missing: missing, Workers: 1 + k})
				for place := range dirs {
					if slices.Contains(missing, place) {
						continue
					}
					wider := slices.Sorted(slices.Values(append([]int{place}, missing...)))
					switch after := look(p, api.Plan{Dirs: dirs, Missing: wider, Workers: 2 + k}); {
					case after.Open < before.Open:
						t.Fatalf("side %d, %v: %d open with %v missing, %d with %v", n, dirs, before.Open, missing, after.Open, wider)
					case after.Open > before.Open:
						more++
					default:
						same++
					}
				}
			}
		}
	}
	if min(more, same, enough) < 100 {
		t.Errorf("the samples are too much alike: more are open %d times, as many %d times, enough %d times", more, same, enough)
	}
}

// P23.3: from none missing on to all, one place after the other, Open never falls, and ends with all cells.
func TestMoreAndMoreMissing(t *testing.T) {
	d := sample.Dice(244)
	for _, n := range []int{1, 2, 5, 12, 31, 64} {
		for range 3 {
			p, dirs := d.Within(n), d.Picked(sample.Wheel(), 14)
			var missing []int
			before := 0
			for range len(dirs) + 1 {
				r := run(t, p, api.Plan{Dirs: dirs, Missing: missing, Workers: 5})
				if r.Open < before {
					t.Fatalf("side %d, %v: %d open with %v missing, %d ahead of that", n, dirs, r.Open, missing, before)
				}
				before = r.Open
				if len(missing) == len(dirs) {
					break
				}
				rest := slices.DeleteFunc(sample.Count(len(dirs)), func(place int) bool { return slices.Contains(missing, place) })
				missing = slices.Sorted(slices.Values(append(slices.Clone(missing), rest[d.Number(len(rest)-1)])))
			}
			if before != n*n {
				t.Fatalf("side %d: %d open with all missing", n, before)
			}
		}
	}
}
