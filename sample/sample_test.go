package sample_test

import (
	"math"
	"slices"
	"testing"

	"penumbra/api"
	"penumbra/dir"
	"penumbra/grid"
	"penumbra/motion"
	"penumbra/phantom"
	"penumbra/ray"
	"penumbra/sample"
	"penumbra/sino"
)

// The looks at memory must find what they look for, in lists of numbers and of bytes.
func TestFaultsAreFound(t *testing.T) {
	faultsAreFound(t, []complex128{1, 2i, 3})
	faultsAreFound(t, []byte{1, 77, 255})
	nans := func(bits ...uint64) []complex128 {
		var out []complex128
		for _, b := range bits {
			out = append(out, complex(math.Float64frombits(b), 0))
		}
		return out
	}
	if !sample.Changed(nans(0x7ff8000000000001), func(list []complex128) { copy(list, nans(0x7ff8000000000002)) }) {
		t.Error("another NaN is not found")
	}
}

func faultsAreFound[T byte | complex128](t *testing.T, x []T) {
	fresh := func(list []T) []T { return append([]T(nil), list...) }
	if sample.Changed(x, func(list []T) { fresh(list) }) || sample.Shared(x, fresh) != "" {
		t.Error("a fault is found where there is none")
	}
	if !sample.Changed(x, func(list []T) { list[0] = 5 }) || !sample.Changed(x, func(list []T) { _ = append(list, 7) }) {
		t.Error("a change is not found")
	}
	kept, long := fresh(x), fresh(x)
	for name, call := range map[string]func(list []T) []T{
		"the argument itself":     func(list []T) []T { return list },
		"the room behind it":      func(list []T) []T { return append(list, 1)[3:] },
		"one list for all":        func([]T) []T { return kept },
		"room that holds another": func([]T) []T { return long[:1] },
	} {
		if sample.Shared(x, call) == "" {
			t.Errorf("%s: not found", name)
		}
	}
	turn := make(chan T, 1)
	turn <- 0
	if sample.Alone(func() []T {
		k := <-turn
		turn <- k + 1
		return []T{k}
	}) {
		t.Error("answers that differ are not found")
	}
}

// Numbers agree by their bits, NaNs with all NaNs.
func TestAgree(t *testing.T) {
	nan, other := math.NaN(), math.Float64frombits(0xfff0000000000001)
	if !sample.Agree(complex(1, nan), complex(1, other)) || sample.Agree(complex(0, 1), complex(sample.MinusNought(), 1)) || sample.Agree(1+2i, 2+1i) || sample.Agree(complex(nan, 0), 0) {
		t.Error("Agree")
	}
	f := api.Grid{N: 1, Cells: []complex128{complex(nan, 0)}}
	if !sample.SameField(f, sample.With(f, 0, complex(nan, 0))) || sample.SameField(f, sample.With(f, 0, complex(other, 0))) || sample.SameField(f, api.Grid{N: 1}) || sample.SameField(f, api.Grid{N: 2, Cells: f.Cells}) {
		t.Error("SameField")
	}
}

// The look at many projections must find lists that are one memory.
func TestSharedSinosAreFound(t *testing.T) {
	fresh := func() api.Sino {
		return api.Sino{N: 1, Projs: []api.Proj{{Bins: []complex128{1}}, {Bins: []complex128{2}}}}
	}
	pieces := func(first, second []complex128) api.Sino {
		return api.Sino{N: 1, Projs: []api.Proj{{Bins: first}, {Bins: second}}}
	}
	bins, kept := []complex128{1, 2}, fresh()
	for name, call := range map[string]func() api.Sino{
		"one list for both":       func() api.Sino { list := []complex128{1}; return pieces(list, list) },
		"room that holds another": func() api.Sino { list := []complex128{1, 2}; return pieces(list[:1], list[1:]) },
		"bins of all answers":     func() api.Sino { return pieces([]complex128{1}, bins) },
		"one list of projections": func() api.Sino { return kept },
	} {
		if sample.SharedSino(call) == "" {
			t.Errorf("%s: not found", name)
		}
	}
	if sample.SharedSino(fresh) != "" || !sample.SameSino(sample.CopySino(fresh()), fresh()) || sample.SameSino(fresh(), api.Sino{N: 1}) {
		t.Error("a fault is found where there is none, or an unlike one is the same")
	}
}

// The look at projections that are handed in must find every change of them, and answers that share their memory.
func TestChangedSinosAreFound(t *testing.T) {
	s := sample.Blanks(2, sample.Dirs()[:3])
	for name, call := range map[string]func(api.Sino){
		"a bin":                  func(s api.Sino) { s.Projs[1].Bins[0]++ },
		"room behind bins":       func(s api.Sino) { _ = append(s.Projs[2].Bins, 9) },
		"a direction":            func(s api.Sino) { s.Projs[0].Dir.P++ },
		"room behind them":       func(s api.Sino) { _ = append(s.Projs, api.Proj{}) },
		"projections exchanged":  func(s api.Sino) { s.Projs[0], s.Projs[1] = s.Projs[1], s.Projs[0] },
		"bins in another memory": func(s api.Sino) { s.Projs[0].Bins = slices.Clone(s.Projs[0].Bins) },
		"bins that are less":     func(s api.Sino) { s.Projs[0].Bins = s.Projs[0].Bins[:1] },
		"bins with less room":    func(s api.Sino) { s.Projs[0].Bins = slices.Clip(s.Projs[0].Bins) },
	} {
		if !sample.ChangedSino(s, call) {
			t.Errorf("%s: not found", name)
		}
	}
	if sample.ChangedSino(s, func(s api.Sino) { sample.CopySino(s) }) || sample.SharedSinos(s, sample.CopySino) != "" {
		t.Error("a fault is found where there is none")
	}
	for name, call := range map[string]func(api.Sino) api.Sino{
		"itself":            func(s api.Sino) api.Sino { return s },
		"the list":          func(s api.Sino) api.Sino { return api.Sino{N: 2, Projs: s.Projs[:1]} },
		"one list of bins":  func(s api.Sino) api.Sino { return api.Sino{N: 2, Projs: []api.Proj{s.Projs[1]}} },
		"a piece of a list": func(s api.Sino) api.Sino { return api.Sino{N: 2, Projs: []api.Proj{{Bins: s.Projs[1].Bins[1:]}}} },
	} {
		if sample.SharedSinos(s, call) == "" {
			t.Errorf("%s: not found", name)
		}
	}
}

// Projections are sound just if they have no flaw, and those of a grid are what rays tell.
func TestSinosAreRight(t *testing.T) {
	for _, n := range sample.Sides() {
		for _, s := range sample.Sinos(n) {
			if e := sino.Check(s); e != api.OK {
				t.Fatalf("side %d, %d projections: error %d", n, len(s.Projs), e)
			}
		}
		g, dirs := sample.Grids(n)[3], sample.Dirs()
		if s, e := ray.All(g, dirs, 4); e != api.OK || !sample.SameSino(s, sample.Seen(g, dirs)) {
			t.Fatalf("side %d: not what rays tell, error %d", n, e)
		}
	}
	for _, f := range sample.SinoFlaws() {
		if e := sino.Check(f.Sino); e != f.Want {
			t.Fatalf("side %d, along %v: error %d, not %d", f.Sino.N, sino.Dirs(f.Sino), e, f.Want)
		}
	}
	count := map[api.Errno]int{}
	for _, s := range append(sample.FewSinos(), sample.FewFlaws()...) {
		count[sino.Check(s)]++
	}
	for _, e := range []api.Errno{api.OK, api.ErrArg, api.ErrLong, api.ErrDir, api.ErrTwice, api.ErrBins} {
		if count[e] == 0 {
			t.Errorf("none of the few has error %d", e)
		}
	}
}

// Phantoms agree field by field, and a copy is not what is written over.
func TestPhantomsAgree(t *testing.T) {
	for _, p := range sample.Phantoms(5) {
		same, whole := sample.SparePhantom(p)
		kept := sample.CopyPhantom(same)
		if phantom.Check(p) != api.OK || !sample.SamePhantom(same, p) {
			t.Fatalf("%v has become %v", p, same)
		}
		sample.WipePhantom(whole)
		if !sample.SamePhantom(kept, p) || len(p.Shapes) > 0 && sample.SamePhantom(same, p) {
			t.Fatalf("%v has become %v, written over %v", p, kept, same)
		}
	}
	p := sample.Phantom(5, sample.Rect(1, 2, 3, 4, 5))
	for _, q := range []api.Phantom{sample.Phantom(4, p.Shapes...), sample.Phantom(5), sample.Phantom(5, sample.Rect(1, 2, 3, 5, 5)), sample.Phantom(5, sample.Rect(1, 2, 3, 4, 5+1i)), sample.Phantom(5, sample.Rect(1, 2, 3, 4, complex(5, sample.MinusNought())))} {
		if sample.SamePhantom(p, q) {
			t.Errorf("%v is not told from %v", q, p)
		}
	}
	for _, p := range slices.Concat(sample.AllPhantoms(1), sample.AllPhantoms(64)) {
		if phantom.Check(p) != api.OK {
			t.Fatalf("%v is no phantom", p)
		}
	}
	for _, f := range sample.Flaws() {
		if phantom.Check(f.Phantom) != f.Want {
			t.Fatalf("%v is no phantom of error %d", f.Phantom, f.Want)
		}
	}
}

// The wheel has every direction once, and lists are refused just if they have a flaw.
func TestDirsAreRight(t *testing.T) {
	all, _ := dir.All(api.MaxStep)
	wheel := sample.Wheel()
	slices.SortFunc(wheel, dir.Cmp)
	if !slices.Equal(wheel, all) {
		t.Error("the wheel is not all directions")
	}
	for p := -33; p <= 33; p++ {
		for q := -33; q <= 33; q++ {
			if d := (api.Dir{P: p, Q: q}); sample.IsDir(d) != (dir.Check(d) == api.OK) {
				t.Errorf("%v is taken for what it is not", d)
			}
		}
	}
	for _, d := range sample.NoDirs() {
		if sample.IsDir(d) {
			t.Errorf("%v is no direction", d)
		}
	}
	for _, f := range sample.DirFlaws() {
		if _, e := dir.Katz(1, f.Dirs); len(f.Dirs) <= api.MaxDirs && e != f.Want || len(f.Dirs) > api.MaxDirs && f.Want != api.ErrLong {
			t.Errorf("%v: error %d, not %d", f.Dirs, e, f.Want)
		}
	}
	for _, list := range sample.DirLists() {
		if _, e := dir.Katz(1, list); e != api.OK || len(list) > api.MaxDirs {
			t.Errorf("%v: error %d", list, e)
		}
	}
}

// What is picked is some of the list, each once, and the list stays; the orders of a list are all of them, each once.
func TestPickedAndOrders(t *testing.T) {
	d := sample.Dice(1)
	all := sample.Short()
	for many := 0; many <= len(all); many++ {
		some := d.Picked(all, many)
		if _, e := dir.Katz(1, some); e != api.OK || len(some) != many || slices.ContainsFunc(some, func(d api.Dir) bool { return !slices.Contains(all, d) }) {
			t.Errorf("%d picked: %v", many, some)
		}
	}
	if !slices.Equal(all, sample.Short()) {
		t.Error("the list is changed")
	}
	for many, count := range []int{1, 1, 2, 6, 24, 120} {
		seen := map[[5]api.Dir]bool{}
		for _, order := range sample.Orders(all[:many]) {
			var key [5]api.Dir
			copy(key[:], order)
			seen[key] = true
			slices.SortFunc(order, dir.Cmp)
			want := slices.SortedFunc(slices.Values(all[:many]), dir.Cmp)
			if !slices.Equal(order, want) {
				t.Fatalf("%v is no order of %v", key, want)
			}
		}
		if len(seen) != count {
			t.Errorf("%d orders of %d", len(seen), many)
		}
	}
}

// Enough determines every grid of that side, and not without its last direction.
func TestEnough(t *testing.T) {
	d := sample.Dice(2)
	for n := 1; n <= 64; n++ {
		for range 10 {
			dirs := d.Enough(n)
			all, e := dir.Katz(n, dirs)
			but, e2 := dir.Katz(n, dirs[:len(dirs)-1])
			if e != api.OK || e2 != api.OK || !all || but || len(dirs) > api.MaxDirs {
				t.Fatalf("side %d, %v: %v, without the last %v", n, dirs, all, but)
			}
		}
	}
}

// A walk loses nothing, one that goes astray does, and the room is no wider.
func TestStepsAreRight(t *testing.T) {
	d := sample.Dice(3)
	for _, n := range sample.Sides() {
		for i, g := range append(sample.Grids(n), sample.With(sample.Filled(n, 0), n*n/2, 7i)) {
			dirs := d.Picked(sample.Wheel(), 1+i)
			steps := d.Walk(g, len(dirs))
			if _, e := motion.Take(g, dirs, steps); e != api.OK {
				t.Fatalf("side %d, %v: error %d", n, steps, e)
			}
			_, e := motion.Take(g, dirs, d.Astray(g, steps))
			if _, _, found := grid.Box(g); found != (e == api.ErrLost) {
				t.Fatalf("side %d: astray error %d", n, e)
			}
			if many := len(d.AnySteps(n, i)); many != i {
				t.Fatalf("%d steps, not %d", many, i)
			}
		}
	}
	if !slices.Equal(sample.Same(api.Step{X: 1, Y: -2}, 2), []api.Step{{X: 1, Y: -2}, {X: 1, Y: -2}}) || len(d.Astray(sample.Numbered(2), nil)) != 0 {
		t.Error("Same, or astray without a step")
	}
}

// Lists that can't be laid back have the fault that is told of them, and the others have none.
func TestLaidFaults(t *testing.T) {
	for _, n := range sample.Sides() {
		for _, f := range sample.LaidFlaws(n) {
			if e := sample.LaidFault(n, f.Sino.Projs); f.Sino.N != n || e != f.Want {
				t.Errorf("side %d, %d projections: error %d, not %d", n, len(f.Sino.Projs), e, f.Want)
			}
		}
		for _, dirs := range sample.Along() {
			if e := sample.LaidFault(n, sample.Blanks(n, dirs).Projs); e != api.OK {
				t.Errorf("side %d, along %v: error %d", n, dirs, e)
			}
		}
	}
}

// What is scanned is sound: phantoms of the side, lists of directions without a fault, missing places that rise.
func TestPlansAreRight(t *testing.T) {
	d := sample.Dice(4)
	for n := 1; n <= 64; n++ {
		for range 8 {
			if p := d.Thing(n); p.N != n || phantom.Check(p) != api.OK {
				t.Fatalf("%v is no phantom of side %d", p, n)
			}
		}
		for _, dirs := range d.Fans(n) {
			if _, e := dir.Katz(n, dirs); e != api.OK || len(dirs) > api.MaxDirs {
				t.Fatalf("side %d, %v: error %d", n, dirs, e)
			}
			for _, missing := range d.Missings(len(dirs)) {
				if !slices.IsSorted(missing) || len(slices.Compact(slices.Clone(missing))) != len(missing) || len(missing) > 0 && (missing[0] < 0 || missing[len(missing)-1] >= len(dirs)) {
					t.Fatalf("%v are no places of %d", missing, len(dirs))
				}
			}
		}
	}
	if !slices.Equal(sample.Count(3), []int{0, 1, 2}) || len(sample.Count(0)) != 0 || !slices.Equal(sample.Without(sample.Short(), sample.Short()[1:]), sample.Short()[:1]) {
		t.Error("Count, or Without")
	}
}
