package phantom_test

import (
	"math"
	"testing"

	"penumbra/api"
	"penumbra/phantom"
	"penumbra/sample"
)

// spare: the phantom with room behind its shapes that holds something, and the whole of that memory.
func spare(p api.Phantom) (same, all api.Phantom) {
	list := append(append([]api.Shape{}, p.Shapes...), few()...)
	return api.Phantom{N: p.N, Shapes: list[:len(p.Shapes)]}, api.Phantom{N: p.N, Shapes: list}
}

func copied(p api.Phantom) api.Phantom {
	return api.Phantom{N: p.N, Shapes: append([]api.Shape{}, p.Shapes...)}
}

// overwrite: all shapes, with the room behind them.
func overwrite(p api.Phantom) {
	list := p.Shapes[:cap(p.Shapes)]
	for i := range list {
		list[i] = api.Shape{Kind: 99, X: 98, Y: 97, A: 96, B: 95, Worth: complex(math.NaN(), 7)}
	}
}

// makers: all calls that answer a phantom out of one, some where the answer has the argument's own shapes.
func makers(n int) map[string]func(p api.Phantom) (api.Phantom, api.Errno) {
	return map[string]func(p api.Phantom) (api.Phantom, api.Errno){
		"Moved by 0":       func(p api.Phantom) (api.Phantom, api.Errno) { return phantom.Moved(p, 0, 0) },
		"Moved":            func(p api.Phantom) (api.Phantom, api.Errno) { return phantom.Moved(p, 3, -2) },
		"Moved too far":    func(p api.Phantom) (api.Phantom, api.Errno) { return phantom.Moved(p, 2000, math.MaxInt) },
		"Join with none":   func(p api.Phantom) (api.Phantom, api.Errno) { return phantom.Join(p, of(n)) },
		"Join of none":     func(p api.Phantom) (api.Phantom, api.Errno) { return phantom.Join(of(n), p) },
		"Join":             func(p api.Phantom) (api.Phantom, api.Errno) { return phantom.Join(p, of(n, few()[:2]...)) },
		"Join, behind":     func(p api.Phantom) (api.Phantom, api.Errno) { return phantom.Join(of(n, few()[:2]...), p) },
		"Join with itself": func(p api.Phantom) (api.Phantom, api.Errno) { return phantom.Join(p, p) },
		"Join, unlike":     func(p api.Phantom) (api.Phantom, api.Errno) { return phantom.Join(p, of(n%64+1)) },
	}
}

// P8.5: what is handed in is not changed, its spare room neither, whatever is answered.
func TestNotChanged(t *testing.T) {
	var all []api.Phantom
	for _, n := range sides() {
		all = append(all, sound(n)...)
	}
	for i, f := range flaws() {
		if i%5 == 0 && len(f.p.Shapes) < 40 {
			all = append(all, f.p)
		}
	}
	for _, p := range all {
		every := makers(max(1, min(p.N, 64)))
		every["Check"] = func(p api.Phantom) (api.Phantom, api.Errno) { return api.Phantom{}, phantom.Check(p) }
		every["Value"] = func(p api.Phantom) (api.Phantom, api.Errno) { phantom.Value(p, 0, 0); return p, api.OK }
		every["Raster"] = func(p api.Phantom) (api.Phantom, api.Errno) { phantom.Raster(p); return p, api.OK }
		every["Mass"] = func(p api.Phantom) (api.Phantom, api.Errno) { phantom.Mass(p); return p, api.OK }
		every["Text"] = func(p api.Phantom) (api.Phantom, api.Errno) { phantom.Text(p); return p, api.OK }
		for name, do := range every {
			same, whole := spare(p)
			before := copied(whole)
			do(same)
			if !alike(whole, before) {
				t.Fatalf("%s changed %v", name, p)
			}
		}
	}
}

// P8.5: an answer is new memory, shared with no argument and no other answer, of before or of later.
func TestAnswersAreNew(t *testing.T) {
	for _, n := range []int{1, 6, 64} {
		for _, p := range sound(n) {
			for name, do := range makers(n) {
				same, whole := spare(p)
				before := copied(whole)
				first, e := do(same)
				second, _ := do(same)
				want := copied(first)
				overwrite(first)
				third, _ := do(same)
				if !alike(second, want) || !alike(third, want) || !alike(whole, before) {
					t.Fatalf("%s of %v (error %d): the answer shares memory", name, p, e)
				}
				overwrite(whole)
				if !alike(second, want) {
					t.Fatalf("%s of %v: the argument shows in the answer later", name, p)
				}
			}
			text := told(p)
			first, _ := phantom.Parse(text)
			second, _ := phantom.Parse(text)
			overwrite(first)
			third, _ := phantom.Parse(text)
			if !alike(second, p) || !alike(third, p) {
				t.Fatalf("Parse of %q: two answers share memory", text)
			}
		}
	}
}

// P8.5: grids too.
func TestGridsAreNew(t *testing.T) {
	for _, n := range sides() {
		for _, p := range sound(n) {
			shares := sample.Shared(nil, func([]complex128) []complex128 {
				g, _ := phantom.Raster(p)
				return g.Cells
			})
			if shares != "" {
				t.Errorf("%v: the grid shares memory with %s", p, shares)
			}
		}
	}
}

// P1, rule 5: calls at the same time do not show in each other's answers, those that give up on a text neither.
func TestAtTheSameTime(t *testing.T) {
	all := sound(8)
	done := make(chan bool)
	for k := range 8 {
		go func() {
			well := true
			for i := range all {
				p := all[(i*k+k)%len(all)]
				moved, e := phantom.Moved(p, 0, 0)
				g, _ := phantom.Raster(p)
				text, _ := phantom.Text(p)
				back, _ := phantom.Parse(text)
				_, broken := phantom.Parse(text[:len(text)-1-k])
				well = well && e == api.OK && alike(moved, p) && sample.Agree(g.Cells[9], value(p, 1, 1)) && text == told(p) && alike(back, p) && broken == api.ErrPage
			}
			done <- well
		}()
	}
	for range 8 {
		if !<-done {
			t.Error("a call answers otherwise beside others")
		}
	}
}
