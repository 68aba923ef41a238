package vault_test

import (
	"bytes"
	"testing"

	"penumbra/api"
	"penumbra/sample"
	"penumbra/vault"
)

// listed: files of few slices, and bytes that are none, also such that are torn behind a slice.
func listed() [][]byte {
	out := append(small(), nil, []byte{})
	for _, b := range append(small(), noFiles()[:8]...) {
		out = append(out, b[:len(b)-1], b)
	}
	return out
}

// P22.4: what is handed in is not changed, and neither is the room behind it, whatever is answered.
func TestNothingIsChanged(t *testing.T) {
	d := sample.Dice(281)
	count := map[api.Errno]int{}
	for _, b := range listed() {
		fields := []api.Grid{sample.One(0.1), sample.One(3 - 1i), anyBits(2, &d), {N: 2}, {N: 3, Cells: make([]complex128, 8)}}
		if list, e := vault.Slices(b); e == api.OK && len(list) > 0 {
			fields = append(fields, list[len(list)-1])
		}
		for _, f := range fields {
			if sample.Changed(b, func(b []byte) {
				vault.Sum(b)
				_, e := vault.Add(b, f)
				count[e]++
				vault.Slices(b)
				vault.Get(b, 0)
				vault.Get(b, 7)
				vault.Cut(b)
			}) {
				t.Fatalf("% x is changed", sample.Start(b))
			}
			if sample.Changed(f.Cells, func(cells []complex128) { vault.Add(b, api.Grid{N: f.N, Cells: cells}) }) {
				t.Fatalf("%s is changed", sample.About(f))
			}
		}
	}
	if min(count[api.OK], count[api.ErrArg], count[api.ErrVault]) == 0 {
		t.Errorf("the samples are too much alike: %v", count)
	}
}

// P22.4: nor where the bytes have room behind them for the whole record, the same bytes standing there already.
func TestRoomBehindIsNotUsed(t *testing.T) {
	for _, f := range []api.Grid{sample.One(0.1), sample.Numbered(3)} {
		file := written(sample.Numbered(3))
		room := bytes.Repeat([]byte{0xa5}, len(file)+400)
		copy(room, file)
		want := bytes.Clone(room)
		first, e := vault.Add(room[:len(file)], f)
		second, _ := vault.Add(room[:len(file)], f)
		if e != api.OK || !bytes.Equal(room, want) {
			t.Fatalf("%s: error %d, the room is % x", sample.About(f), e, room[len(file):])
		}
		clear(first[:cap(first)])
		if !bytes.Equal(room, want) || !bytes.Equal(second, written(sample.Numbered(3), f)) {
			t.Fatalf("%s: written over", sample.About(f))
		}
	}
}

// P22.4: an answer shares no memory with what was handed in, nor with another answer.
func TestAnswersAreNew(t *testing.T) {
	d := sample.Dice(282)
	for _, b := range listed() {
		list, _ := vault.Slices(b)
		fields := []api.Grid{sample.One(0.1), sample.One(7), anyBits(2, &d), {N: 2}}
		if len(list) > 0 {
			fields = append(fields, list[len(list)-1])
		}
		for _, f := range fields {
			if with := sample.Shared(b, func(b []byte) []byte { got, _ := vault.Add(b, f); return got }); with != "" {
				t.Fatalf("% x: Add shares memory with %s", sample.Start(b), with)
			}
			if with := sample.Shared(f.Cells, func(cells []complex128) []byte {
				got, _ := vault.Add(b, api.Grid{N: f.N, Cells: cells})
				return got
			}); with != "" {
				t.Fatalf("%s: Add shares memory with %s", sample.About(f), with)
			}
		}
		for i := range list {
			for name, call := range map[string]func(b []byte) api.Grid{
				"Get":    func(b []byte) api.Grid { got, _ := vault.Get(b, i); return got },
				"Slices": func(b []byte) api.Grid { got, _ := vault.Slices(b); return pick(got, i) },
			} {
				if with := sample.Shared(b, func(b []byte) []complex128 { return call(b).Cells }); with != "" {
					t.Fatalf("% x: %s: slice %d shares memory with %s", sample.Start(b), name, i, with)
				}
			}
		}
	}
}

// pick: one of the list, or none where it isn't as long any more, as it would be if what was written over the answer before showed in the bytes.
func pick(list []api.Grid, i int) api.Grid {
	if i >= len(list) {
		return api.Grid{}
	}
	return list[i]
}

// P22.4: no two lists of one answer share memory, like slices neither, and the list of slices is another one each time.
func TestSlicesAreApart(t *testing.T) {
	d := sample.Dice(283)
	f := anyBits(3, &d)
	for _, list := range [][]api.Grid{{f, f, f}, {sample.One(5), sample.One(5)}, {f, turned(f, &d), turned(f, &d), sample.Filled(3, 0), sample.Filled(3, 0)}, row(64, []int{1, 2, 3}, &d)} {
		file := filed(t, list...)
		for i := range list {
			got, _ := vault.Slices(file)
			other, _ := vault.Slices(file)
			cells := got[i].Cells[:cap(got[i].Cells)]
			for k := range cells {
				cells[k] = 77
			}
			for j := range got {
				if j != i && !sample.SameField(got[j], list[j]) {
					t.Fatalf("slices %d and %d share memory", i, j)
				}
			}
			if !sameSlices(other, list) {
				t.Fatalf("slice %d is shared with another answer", i)
			}
		}
		got, _ := vault.Slices(file)
		other, _ := vault.Slices(file)
		clear(got[:cap(got)])
		if again, e := vault.Slices(file); e != api.OK || !sameSlices(again, list) || !sameSlices(other, list) {
			t.Fatal("the list of slices is shared with another answer")
		}
	}
}

// P1, rule 5: calls at the same time do not show in each other's answers.
func TestAtTheSameTime(t *testing.T) {
	d := sample.Dice(284)
	for range 10 {
		list := row(5, []int{2, 3}, &d)
		file := written(list...)
		torn := file[:len(file)-3]
		if !sample.Alone(func() []byte { b, _ := vault.Add(file, list[0]); return b }) {
			t.Error("Add answers otherwise beside itself")
		}
		if !sample.Alone(func() []complex128 { f, _ := vault.Get(file, 3); return f.Cells }) {
			t.Error("Get answers otherwise beside itself")
		}
		if !sample.Alone(func() []byte { many, at := vault.Cut(torn); return []byte{byte(many), byte(at), byte(at >> 8)} }) {
			t.Error("Cut answers otherwise beside itself")
		}
	}
}
