package closed_test

import (
	"slices"
	"testing"

	"penumbra/api"
	"penumbra/closed"
	"penumbra/sample"
)

// P10.4: a phantom that is handed in is not changed, its spare room neither, whatever is answered.
func TestPhantomsAreNotChanged(t *testing.T) {
	var all []api.Phantom
	for _, n := range sample.Sides() {
		all = append(all, sample.AllPhantoms(n)...)
	}
	for i, f := range sample.Flaws() {
		if i%5 == 0 && len(f.Phantom.Shapes) < 40 {
			all = append(all, f.Phantom)
		}
	}
	for _, p := range all {
		same, whole := sample.SparePhantom(p)
		before := sample.CopyPhantom(whole)
		for _, d := range []api.Dir{{P: 3, Q: 2}, {P: 1}, {P: 2, Q: 2}} {
			closed.Project(same, d)
			closed.All(same, []api.Dir{d, {Q: 1}})
			closed.Chord(same, d, 0)
			closed.Chord(same, d, -1)
		}
		closed.Moment(same)
		if !sample.SamePhantom(whole, before) {
			t.Fatalf("%v: changed", p)
		}
	}
}

// P10.4: nor are lists of directions.
func TestDirsAreNotChanged(t *testing.T) {
	all := append(sample.DirLists(), sample.Wheel(), sample.NoDirs(), append(sample.Dirs(), sample.Dirs()...), append(sample.Dirs(), sample.NoDirs()...))
	for _, dirs := range all {
		for _, p := range []api.Phantom{example(), {}} {
			room := append(slices.Clone(dirs), api.Dir{P: -16, Q: 1}, api.Dir{P: 7, Q: -7}, api.Dir{P: 1})
			before := slices.Clone(room)
			closed.All(p, room[:len(dirs)])
			if !slices.Equal(room, before) {
				t.Fatalf("%v has become %v", before, room)
			}
		}
	}
}

// P10.4: an answer is new memory, shared with no argument and no other answer, of before or of later; no two lists of one answer share any.
func TestAnswersAreNew(t *testing.T) {
	for _, n := range []int{1, 2, 13} {
		for _, p := range sample.AllPhantoms(n) {
			dirs := sample.Wheel()[:20]
			for _, d := range dirs[:4] {
				shares := sample.Shared(nil, func([]complex128) []complex128 {
					q, _ := closed.Project(p, d)
					return q.Bins
				})
				if shares != "" {
					t.Fatalf("%v along %v: the bins share memory with %s", p, d, shares)
				}
			}
			shares := sample.SharedSino(func() api.Sino {
				s, e := closed.All(p, dirs)
				return right(t, s, e)
			})
			if shares != "" {
				t.Fatalf("%v: the bins share memory with %s", p, shares)
			}
			s, e := closed.All(p, dirs)
			want := sample.CopySino(right(t, s, e))
			sample.WipePhantom(p)
			clear(dirs)
			if !sample.SameSino(s, want) {
				t.Fatalf("side %d: an argument shows in the answer later", n)
			}
		}
	}
}

// P1, rule 5: calls at the same time do not show in each other's answers.
func TestAtTheSameTime(t *testing.T) {
	done := make(chan bool)
	p, dirs := sample.AnyPhantoms(13, 5)[4], sample.Wheel()[:30]
	want := oneByOne(t, p, dirs)
	mx, my := moments(13, cells(p))
	for k := range 8 {
		go func() {
			well := true
			for range 20 {
				s, e := closed.All(p, dirs[k:])
				q, _ := closed.Project(p, dirs[k])
				v, _ := closed.Chord(p, dirs[k], k)
				x, y, _ := closed.Moment(p)
				part := api.Sino{N: 13, Projs: want.Projs[k:]}
				well = well && e == api.OK && sample.SameSino(s, part) && sample.SameProj(q, part.Projs[0]) && sample.Agree(v, q.Bins[k]) && sameMoments(x, y, mx, my)
			}
			done <- well
		}()
	}
	for range 8 {
		if !<-done {
			t.Error("a call answers otherwise beside others")
		}
	}
}
