package pack_test

import (
	"testing"

	"penumbra/api"
	"penumbra/pack"
	"penumbra/sample"
)

// few: fields of every kind and such that are none, small enough to be gone through many times.
func few() []api.Grid {
	d := sample.Dice(244)
	out := []api.Grid{{N: 2, Cells: make([]complex128, 3)}, {N: 65, Cells: make([]complex128, 9)}, {N: -1}}
	for _, n := range []int{1, 2, 5} {
		out = append(out, d.Fields(n)...)
	}
	return out
}

// listed: packed bytes of every way, and such that are none.
func listed() [][]byte {
	out := [][]byte{nil, {2, 1, 0x86, 0, 1}, {7, 1, 3, 4}, {0, 65}, {1, 2, 3, 4, 5}}
	for _, b := range some() {
		out = append(out, b, b[:len(b)-1])
	}
	return out
}

// P21.4: what is handed in is not changed, and neither is the room behind it, whatever is answered.
func TestNothingIsChanged(t *testing.T) {
	count := map[api.Errno]int{}
	for _, f := range few() {
		if sample.Changed(f.Cells, func(cells []complex128) {
			same := api.Grid{N: f.N, Cells: cells}
			_, e := pack.Pack(same)
			count[e]++
			pack.Way(same)
			pack.Change(same, same)
		}) {
			t.Fatalf("%s is changed", sample.About(f))
		}
		for _, g := range []api.Grid{sample.Filled(2, 7-3i), f} {
			if sample.Changed(g.Cells, func(cells []complex128) {
				pack.Change(f, api.Grid{N: g.N, Cells: cells})
				pack.Change(api.Grid{N: g.N, Cells: cells}, f)
			}) {
				t.Fatalf("%s by %s: changed", sample.About(f), sample.About(g))
			}
		}
	}
	for _, b := range listed() {
		if sample.Changed(b, func(b []byte) {
			_, e := pack.Unpack(b)
			count[e]++
		}) {
			t.Fatalf("% x is changed", sample.Start(b))
		}
	}
	if min(count[api.OK], count[api.ErrArg], count[api.ErrPack]) == 0 {
		t.Errorf("the samples are too much alike: %v", count)
	}
}

// P21.4: an answer is new memory.
func TestAnswersAreNew(t *testing.T) {
	for _, f := range few() {
		of := func(cells []complex128) api.Grid { return api.Grid{N: f.N, Cells: cells} }
		if with := sample.Shared(f.Cells, func(cells []complex128) []byte {
			b, _ := pack.Pack(of(cells))
			return b
		}); with != "" {
			t.Fatalf("%s: Pack shares memory with %s", sample.About(f), with)
		}
		for _, other := range []api.Grid{of(make([]complex128, len(f.Cells))), f} {
			for name, call := range map[string]func(g, h api.Grid) (api.Grid, api.Errno){
				"the first":  pack.Change,
				"the second": func(g, h api.Grid) (api.Grid, api.Errno) { return pack.Change(h, g) },
			} {
				if with := sample.Shared(f.Cells, func(cells []complex128) []complex128 {
					c, _ := call(of(cells), other)
					return c.Cells
				}); with != "" {
					t.Fatalf("%s is %s: Change shares memory with %s", sample.About(f), name, with)
				}
			}
		}
	}
	for _, b := range listed() {
		if with := sample.Shared(b, func(b []byte) []complex128 {
			f, _ := pack.Unpack(b)
			return f.Cells
		}); with != "" {
			t.Fatalf("% x: Unpack shares memory with %s", sample.Start(b), with)
		}
	}
}

// P1, rule 5: calls at the same time do not show in each other's answers.
func TestAtTheSameTime(t *testing.T) {
	d := sample.Dice(245)
	for _, f := range d.Fields(9) {
		_, b := packed(f)
		if !sample.Alone(func() []byte { b, _ := pack.Pack(f); return b }) {
			t.Errorf("%s: Pack answers otherwise beside itself", sample.About(f))
		}
		if !sample.Alone(func() []complex128 { f, _ := pack.Unpack(b); return f.Cells }) {
			t.Errorf("%s: Unpack answers otherwise beside itself", sample.About(f))
		}
		if !sample.Alone(func() []complex128 { c, _ := pack.Change(f, sample.Numbered(9)); return c.Cells }) {
			t.Errorf("%s: Change answers otherwise beside itself", sample.About(f))
		}
	}
}
