package sino_test

import (
	"slices"
	"testing"

	"penumbra/api"
	"penumbra/sample"
	"penumbra/sino"
)

// P11.4: projections that are handed in are not changed, nor the room behind any of their lists, whatever is answered.
func TestProjectionsAreNotChanged(t *testing.T) {
	for _, s := range append(sample.FewSinos(), sample.FewFlaws()...) {
		dirs := sino.Dirs(s)
		changed := sample.ChangedSino(s, func(same api.Sino) {
			sino.Check(same)
			sino.Total(same)
			sino.Moment(same)
			sino.Sort(same)
			sino.Dirs(same)
			sino.Only(same, dirs)
			sino.Only(same, dirs[len(dirs)/2:])
			sino.Only(same, []api.Dir{{P: 7, Q: 9}})
			for _, d := range slices.Concat(dirs[:min(len(dirs), 5)], []api.Dir{{}, {P: 7, Q: 9}}) {
				sino.Drop(same, d)
			}
			other := sample.Blanks(min(max(s.N, 1), api.MaxSide), []api.Dir{{P: 13, Q: 11}})
			for _, b := range []api.Sino{same, {}, {N: same.N}, other} {
				sino.Join(same, b)
				sino.Join(b, same)
			}
		})
		if changed {
			t.Fatalf("%s: changed", about(s))
		}
	}
}

// P11.4: nor are lists of directions.
func TestDirsAreNotChanged(t *testing.T) {
	for _, s := range append(sample.FewSinos(), api.Sino{}) {
		for _, dirs := range [][]api.Dir{nil, sino.Dirs(s), sample.Wheel(), sample.NoDirs(), {{P: 1}, {P: 1}}} {
			room := append(slices.Clone(dirs), api.Dir{P: -16, Q: 1}, api.Dir{P: 7, Q: -7}, api.Dir{P: 1})
			before := slices.Clone(room)
			sino.Only(s, room[:len(dirs)])
			if !slices.Equal(room, before) {
				t.Fatalf("%v has become %v", before, room)
			}
		}
	}
}

// P11.4: an answer shares no memory with what was handed in, with another answer, nor one list of it with another.
func TestAnswersAreNew(t *testing.T) {
	for _, s := range sample.FewSinos() {
		dirs := sino.Dirs(s)
		turned := slices.Clone(dirs)
		slices.Reverse(turned)
		other := sample.Blanks(s.N, []api.Dir{{P: 13, Q: 11}})
		calls := map[string]func(same api.Sino) (api.Sino, api.Errno){
			"Only of all":           func(same api.Sino) (api.Sino, api.Errno) { return sino.Only(same, dirs) },
			"Only of all, turned":   func(same api.Sino) (api.Sino, api.Errno) { return sino.Only(same, turned) },
			"Only of some":          func(same api.Sino) (api.Sino, api.Errno) { return sino.Only(same, dirs[len(dirs)/2:]) },
			"Join with none":        func(same api.Sino) (api.Sino, api.Errno) { return sino.Join(same, api.Sino{N: s.N}) },
			"Join of none with it":  func(same api.Sino) (api.Sino, api.Errno) { return sino.Join(api.Sino{N: s.N}, same) },
			"Join with one":         func(same api.Sino) (api.Sino, api.Errno) { return sino.Join(same, other) },
			"Join of one with it":   func(same api.Sino) (api.Sino, api.Errno) { return sino.Join(other, same) },
			"Sort":                  func(same api.Sino) (api.Sino, api.Errno) { return sino.Sort(same) },
			"Drop of the first":     func(same api.Sino) (api.Sino, api.Errno) { return sino.Drop(same, dirs[0]) },
			"Drop of the last":      func(same api.Sino) (api.Sino, api.Errno) { return sino.Drop(same, dirs[len(dirs)-1]) },
			"Drop of the third one": func(same api.Sino) (api.Sino, api.Errno) { return sino.Drop(same, dirs[2]) },
		}
		for name, call := range calls {
			if name[:4] == "Drop" && len(dirs) < 3 || name[:4] == "Join" && len(dirs) == 64 {
				continue
			}
			shares := sample.SharedSinos(s, func(same api.Sino) api.Sino {
				got, _ := call(same)
				return got
			})
			if shares != "" {
				t.Fatalf("%s: %s: it shares memory with %s", about(s), name, shares)
			}
			got, e := call(s)
			right(t, got, e)
		}
	}
}

// P11.4: what is joined shares none with the second argument either.
func TestJoinedIsNew(t *testing.T) {
	one := sample.Blanks(3, sample.Dirs()[:4])
	if shares := sample.SharedSinos(sample.Blanks(3, sample.Dirs()[4:9]), func(same api.Sino) api.Sino {
		both, _ := sino.Join(one, same)
		return both
	}); shares != "" {
		t.Errorf("it shares memory with %s", shares)
	}
	if !sample.SameSino(one, sample.Blanks(3, sample.Dirs()[:4])) {
		t.Error("the first argument is written over")
	}
}

// P11.4: Dirs answers a list of its own.
func TestDirsAreNew(t *testing.T) {
	for _, s := range sample.FewSinos() {
		first, second := sino.Dirs(s), sino.Dirs(s)
		want := slices.Clone(first)
		room := first[:cap(first)]
		for i := range room {
			room[i] = api.Dir{P: 99}
		}
		if !slices.Equal(second, want) || !slices.Equal(sino.Dirs(s), want) {
			t.Fatalf("%v has become %v", want, second)
		}
	}
}

// P1, rule 5: calls at the same time do not show in each other's answers.
func TestAtTheSameTime(t *testing.T) {
	done := make(chan bool)
	s := sample.Seen(sample.Numbered(5), sample.Wheel()[:30])
	dirs := sino.Dirs(s)
	total, _ := totals(s)
	mx, my, _ := met(s)
	sorted, e := sino.Sort(s)
	right(t, sorted, e)
	for k := range 8 {
		go func() {
			well := true
			for range 20 {
				v, _ := sino.Total(s)
				x, y, _ := sino.Moment(s)
				rest, _ := sino.Drop(s, dirs[k])
				some, _ := sino.Only(s, dirs[k:k+1])
				both, _ := sino.Join(rest, some)
				again, _ := sino.Sort(both)
				well = well && v == total && x == mx && y == my && sample.SameSino(rest, without(s, k)) && sample.SameSino(again, sorted)
			}
			done <- well
		}()
	}
	for range 8 {
		if !<-done {
			t.Error("a call answers otherwise beside others")
		}
	}
}
