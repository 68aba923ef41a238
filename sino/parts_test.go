package sino_test

import (
	"fmt"
	"slices"
	"testing"

	"penumbra/api"
	"penumbra/dir"
	"penumbra/sample"
	"penumbra/sino"
)

// sinos: sound ones of every kind and of all sides.
func sinos() []api.Sino {
	var out []api.Sino
	for _, n := range sample.Sides() {
		out = append(out, sample.Sinos(n)...)
	}
	return out
}

func about(s api.Sino) string { return fmt.Sprintf("side %d, along %v", s.N, sino.Dirs(s)) }

// without: the projections but for that at one place.
func without(s api.Sino, place int) api.Sino {
	return api.Sino{N: s.N, Projs: slices.Concat(s.Projs[:place], s.Projs[place+1:])}
}

// P11.1: the first, the last and others dropped; what isn't there, and what is no direction.
func TestDrop(t *testing.T) {
	for _, s := range sinos() {
		for place, p := range s.Projs {
			if place%7 > 1 && place != len(s.Projs)-1 {
				continue
			}
			rest, e := sino.Drop(s, p.Dir)
			if !sample.SameSino(right(t, rest, e), without(s, place)) {
				t.Fatalf("%s: without %v: %v", about(s), p.Dir, sino.Dirs(rest))
			}
			again, e := sino.Drop(rest, p.Dir)
			refused(t, "Drop of what was dropped", noSino(again), e, api.ErrNone)
		}
	}
	for _, s := range append(sample.Sinos(3), sinoOf(64), example()) {
		for _, d := range append(sample.NoDirs(), sample.Wheel()...) {
			if slices.Contains(sino.Dirs(s), d) {
				continue
			}
			rest, e := sino.Drop(s, d)
			refused(t, fmt.Sprint("Drop of ", d), noSino(rest), e, api.ErrNone)
		}
	}
}

// P11.1: none, all, one, and some, in their order and in others.
func TestOnly(t *testing.T) {
	d := sample.Dice(12)
	for _, s := range sinos() {
		all := make([]int, len(s.Projs))
		for i := range all {
			all[i] = i
		}
		turned := slices.Clone(all)
		slices.Reverse(turned)
		lists := [][]int{nil, {}, all, turned, all[len(all)/2:], turned[:len(all)/3]}
		for range min(len(all), 3) {
			mixed := slices.Clone(all)
			for i := range mixed {
				j := int(d.Word() % uint64(i+1))
				mixed[i], mixed[j] = mixed[j], mixed[i]
			}
			lists = append(lists, mixed, mixed[:1], mixed[:(len(all)+1)/2])
		}
		for _, list := range lists {
			want := api.Sino{N: s.N}
			for _, place := range list {
				want.Projs = append(want.Projs, s.Projs[place])
			}
			if some, e := sino.Only(s, sino.Dirs(want)); !sample.SameSino(right(t, some, e), want) {
				t.Fatalf("%s: of %v only %v", about(s), list, sino.Dirs(some))
			}
		}
	}
}

// P11.1: what isn't there and what stands twice, each ahead of the other; what is no direction isn't there.
func TestOnlyRefused(t *testing.T) {
	const twice, none = api.ErrTwice, api.ErrNone
	a, b, c, x, y := dirOf(1, 0), dirOf(0, 1), dirOf(1, 1), dirOf(2, 1), dirOf(2, 2)
	s := sample.Blanks(3, []api.Dir{a, b, c})
	for _, f := range []struct {
		want api.Errno
		dirs []api.Dir
	}{
		{none, []api.Dir{x}}, {none, []api.Dir{y}}, {none, []api.Dir{{}}}, {none, []api.Dir{{P: -1}}}, {none, []api.Dir{{Q: -1}}}, {none, []api.Dir{{P: -1, Q: -1}}}, {none, []api.Dir{{P: 2}}},
		{none, []api.Dir{a, b, c, x}}, {none, []api.Dir{a, x, b, c}}, {none, []api.Dir{x, a, b, c}}, {none, []api.Dir{c, b, a, {P: 3, Q: 3}}},
		{twice, []api.Dir{a, a}}, {twice, []api.Dir{a, b, a}}, {twice, []api.Dir{a, b, c, a}}, {twice, []api.Dir{c, b, a, a}}, {twice, []api.Dir{b, b, b}},
		{twice, []api.Dir{a, a, x}}, {twice, []api.Dir{a, b, c, b, x}}, {twice, []api.Dir{a, a, y}}, {twice, []api.Dir{b, c, c, x, x}},
		{none, []api.Dir{x, a, a}}, {none, []api.Dir{b, x, a, a}}, {none, []api.Dir{y, b, b}}, {none, []api.Dir{x, y, a, b, a}},
		// What stands ahead is what counts: of these the first fault is that of a direction which isn't there.
		{none, []api.Dir{x, x}}, {none, []api.Dir{a, x, a}}, {none, []api.Dir{y, y}}, {none, []api.Dir{x, a, x}},
		{none, make([]api.Dir, 65)}, {none, make([]api.Dir, 70000)}, {none, sample.Wheel()}, {twice, slices.Repeat([]api.Dir{a, b, c}, 30)},
	} {
		some, e := sino.Only(s, f.dirs)
		refused(t, fmt.Sprintf("Only of %d, %v", len(f.dirs), f.dirs[:min(len(f.dirs), 6)]), noSino(some), e, f.want)
	}
	for _, d := range sample.NoDirs() {
		some, e := sino.Only(s, []api.Dir{a, d, a})
		refused(t, fmt.Sprint("Only of ", d), noSino(some), e, none)
	}
	full := sample.Blanks(2, sample.Wheel()[:64])
	for place := range 64 {
		dirs := sino.Dirs(full)
		some, e := sino.Only(full, append(dirs, dirs[place]))
		refused(t, "Only of all and one of them", noSino(some), e, twice)
		some, e = sino.Only(without(full, place), dirs)
		refused(t, "Only of all and one more", noSino(some), e, none)
	}
	some, e := sino.Only(sinoOf(2), []api.Dir{a})
	refused(t, "Only of none", noSino(some), e, none)
}

// P11.1: a's, then b's, either of them none, up to 64 together.
func TestJoin(t *testing.T) {
	for _, s := range sinos() {
		for _, cut := range []int{0, 1, len(s.Projs) / 2, len(s.Projs) - 1, len(s.Projs)} {
			if cut < 0 || cut > len(s.Projs) {
				continue
			}
			a, b := api.Sino{N: s.N, Projs: s.Projs[:cut]}, api.Sino{N: s.N, Projs: s.Projs[cut:]}
			if both, e := sino.Join(a, b); !sample.SameSino(right(t, both, e), s) {
				t.Fatalf("%s and %s: %s", about(a), about(b), about(both))
			}
			turned := api.Sino{N: s.N, Projs: slices.Concat(b.Projs, a.Projs)}
			if both, e := sino.Join(b, a); !sample.SameSino(right(t, both, e), turned) {
				t.Fatalf("%s and %s: %s", about(b), about(a), about(both))
			}
		}
	}
}

// P11.1: of several faults the first: a's, b's, the sides, how many, a direction in both.
func TestJoinRefused(t *testing.T) {
	wheel := sample.Wheel()
	of := func(n, from, to int) api.Sino { return sample.Blanks(n, wheel[from:to]) }
	no := func(n int) api.Sino { return sinoOf(n, projOf(2, 2), projOf(1, 0)) }
	short := func(n int) api.Sino { return sinoOf(n, projOf(1, 0)) }
	for i, f := range []struct {
		a, b api.Sino
		want api.Errno
	}{
		{sinoOf(65), no(2), api.ErrArg}, {no(2), sinoOf(65), api.ErrDir}, {no(2), short(3), api.ErrDir}, {short(2), no(3), api.ErrBins}, {of(2, 0, 65), no(2), api.ErrLong}, {no(2), of(2, 0, 65), api.ErrDir},
		{sinoOf(2, projOf(1, 0, 0, 0), projOf(1, 0)), short(2), api.ErrTwice}, {of(2, 0, 3), short(3), api.ErrBins}, {of(2, 0, 64), short(2), api.ErrBins}, {of(2, 0, 64), no(3), api.ErrDir},
		{sinoOf(2), sinoOf(3), api.ErrArg}, {of(2, 0, 3), sinoOf(1), api.ErrArg}, {sinoOf(64), of(63, 0, 2), api.ErrArg}, {of(2, 0, 64), of(3, 0, 64), api.ErrArg}, {of(3, 0, 5), of(2, 0, 5), api.ErrArg},
		{of(2, 0, 64), of(2, 64, 65), api.ErrLong}, {of(2, 64, 65), of(2, 0, 64), api.ErrLong}, {of(2, 0, 33), of(2, 33, 65), api.ErrLong}, {of(2, 0, 64), of(2, 64, 128), api.ErrLong}, {of(2, 0, 64), of(2, 0, 64), api.ErrLong}, {of(2, 0, 64), of(2, 0, 1), api.ErrLong}, {of(2, 0, 33), of(2, 32, 64), api.ErrLong},
		{of(2, 0, 1), of(2, 0, 1), api.ErrTwice}, {of(2, 0, 32), of(2, 31, 63), api.ErrTwice}, {of(2, 0, 32), of(2, 0, 32), api.ErrTwice}, {of(2, 5, 68), of(2, 5, 6), api.ErrTwice}, {of(2, 67, 68), of(2, 5, 68), api.ErrTwice}, {of(64, 0, 2), of(64, 1, 2), api.ErrTwice},
	} {
		both, e := sino.Join(f.a, f.b)
		refused(t, fmt.Sprint("Join, number ", i), noSino(both), e, f.want)
	}
	if both, e := sino.Join(of(2, 0, 63), of(2, 63, 64)); !sample.SameSino(right(t, both, e), of(2, 0, 64)) {
		t.Error("Join of 63 and one")
	}
	// One direction with unlike bins stands twice all the same.
	both, e := sino.Join(sinoOf(1, projOf(1, 0, 5)), sinoOf(1, projOf(1, 0, 6)))
	refused(t, "Join, unlike bins", noSino(both), e, api.ErrTwice)
}

// P11.1: in the order of layer 6, each projection with its own bins.
func TestSort(t *testing.T) {
	all, e := dir.All(api.MaxStep)
	right(t, all, e)
	for _, s := range sinos() {
		want := api.Sino{N: s.N}
		for _, d := range all {
			if at := slices.Index(sino.Dirs(s), d); at >= 0 {
				want.Projs = append(want.Projs, s.Projs[at])
			}
		}
		if got, e := sino.Sort(s); !sample.SameSino(right(t, got, e), want) {
			t.Fatalf("%s has become %s", about(s), about(got))
		}
	}
	s := sample.Blanks(2, []api.Dir{{P: -1, Q: 1}, {Q: 1}, {P: 1, Q: 2}, {P: -16, Q: 1}, {P: 1}, {P: 16, Q: 1}, {P: 1, Q: 1}})
	got, e := sino.Sort(s)
	if !slices.Equal(sino.Dirs(right(t, got, e)), []api.Dir{{P: 1}, {P: 16, Q: 1}, {P: 1, Q: 1}, {P: 1, Q: 2}, {Q: 1}, {P: -1, Q: 1}, {P: -16, Q: 1}}) {
		t.Errorf("written out: %v", sino.Dirs(got))
	}
}
