package phantom_test

import (
	"math"
	"testing"

	"penumbra/api"
	"penumbra/phantom"
	"penumbra/sample"
)

// makers: all calls that answer a phantom out of one, some where the answer has the argument's own shapes.
func makers(n int) map[string]func(p api.Phantom) (api.Phantom, api.Errno) {
	return map[string]func(p api.Phantom) (api.Phantom, api.Errno){
		"Moved by 0":     func(p api.Phantom) (api.Phantom, api.Errno) { return phantom.Moved(p, 0, 0) },
		"Moved":          func(p api.Phantom) (api.Phantom, api.Errno) { return phantom.Moved(p, 3, -2) },
		"Moved too far":  func(p api.Phantom) (api.Phantom, api.Errno) { return phantom.Moved(p, 2000, math.MaxInt) },
		"Join with none": func(p api.Phantom) (api.Phantom, api.Errno) { return phantom.Join(p, sample.Phantom(n)) },
		"Join of none":   func(p api.Phantom) (api.Phantom, api.Errno) { return phantom.Join(sample.Phantom(n), p) },
		"Join": func(p api.Phantom) (api.Phantom, api.Errno) {
			return phantom.Join(p, sample.Phantom(n, sample.Shapes()[:2]...))
		},
		"Join, behind": func(p api.Phantom) (api.Phantom, api.Errno) {
			return phantom.Join(sample.Phantom(n, sample.Shapes()[:2]...), p)
		},
		"Join with itself": func(p api.Phantom) (api.Phantom, api.Errno) { return phantom.Join(p, p) },
		"Join, unlike":     func(p api.Phantom) (api.Phantom, api.Errno) { return phantom.Join(p, sample.Phantom(n%64+1)) },
	}
}

// P8.5: what is handed in is not changed, its spare room neither, whatever is answered.
func TestNotChanged(t *testing.T) {
	var all []api.Phantom
	for _, n := range sides() {
		all = append(all, sample.Phantoms(n)...)
	}
	for i, f := range sample.Flaws() {
		if i%5 == 0 && len(f.Phantom.Shapes) < 40 {
			all = append(all, f.Phantom)
		}
	}
	for _, p := range all {
		every := makers(max(1, min(p.N, 64)))
		every["Check"] = func(p api.Phantom) (api.Phantom, api.Errno) { return api.Phantom{}, phantom.Check(p) }
		every["Value"] = func(p api.Phantom) (api.Phantom, api.Errno) { phantom.Value(p, 0, 0); return p, api.OK }
		every["Raster"] = func(p api.Phantom) (api.Phantom, api.Errno) { phantom.Raster(p); return p, api.OK }
		every["Mass"] = func(p api.Phantom) (api.Phantom, api.Errno) { phantom.Mass(p); return p, api.OK }
		every["Text"] = func(p api.Phantom) (api.Phantom, api.Errno) { phantom.Text(p); return p, api.OK }
		for name, do := range every {
			same, whole := sample.SparePhantom(p)
			before := sample.CopyPhantom(whole)
			do(same)
			if !sample.SamePhantom(whole, before) {
				t.Fatalf("%s changed %v", name, p)
			}
		}
	}
}

// P8.5: an answer is new memory, shared with no argument and no other answer, of before or of later.
func TestAnswersAreNew(t *testing.T) {
	for _, n := range []int{1, 6, 64} {
		for _, p := range sample.Phantoms(n) {
			for name, do := range makers(n) {
				same, whole := sample.SparePhantom(p)
				before := sample.CopyPhantom(whole)
				first, e := do(same)
				second, _ := do(same)
				want := sample.CopyPhantom(first)
				sample.WipePhantom(first)
				third, _ := do(same)
				if !sample.SamePhantom(second, want) || !sample.SamePhantom(third, want) || !sample.SamePhantom(whole, before) {
					t.Fatalf("%s of %v (error %d): the answer shares memory", name, p, e)
				}
				sample.WipePhantom(whole)
				if !sample.SamePhantom(second, want) {
					t.Fatalf("%s of %v: the argument shows in the answer later", name, p)
				}
			}
			text := told(p)
			first, _ := phantom.Parse(text)
			second, _ := phantom.Parse(text)
			sample.WipePhantom(first)
			third, _ := phantom.Parse(text)
			if !sample.SamePhantom(second, p) || !sample.SamePhantom(third, p) {
				t.Fatalf("Parse of %q: two answers share memory", text)
			}
		}
	}
}

// P8.5: grids too.
func TestGridsAreNew(t *testing.T) {
	for _, n := range sides() {
		for _, p := range sample.Phantoms(n) {
			shares := sample.Shared(nil, func([]complex128) []complex128 {
				g, _ := phantom.Raster(p)
				return g.Cells
			})
			if shares != "" {
				t.Errorf("%v: the grid shares memory with %s", p, shares)
			}
		}
	}
}

// P1, rule 5: calls at the same time do not show in each other's answers, those that give up on a text neither.
func TestAtTheSameTime(t *testing.T) {
	all := sample.Phantoms(8)
	done := make(chan bool)
	for k := range 8 {
		go func() {
			well := true
			for i := range all {
				p := all[(i*k+k)%len(all)]
				moved, e := phantom.Moved(p, 0, 0)
				g, _ := phantom.Raster(p)
				text, _ := phantom.Text(p)
				back, _ := phantom.Parse(text)
				_, broken := phantom.Parse(text[:len(text)-1-k])
				well = well && e == api.OK && sample.SamePhantom(moved, p) && sample.Agree(g.Cells[9], value(p, 1, 1)) && text == told(p) && sample.SamePhantom(back, p) && broken == api.ErrPage
			}
			done <- well
		}()
	}
	for range 8 {
		if !<-done {
			t.Error("a call answers otherwise beside others")
		}
	}
}
