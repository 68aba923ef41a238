package bench_test

import (
	"fmt"
	"slices"
	"strings"
	"testing"

	"penumbra/api"
	"penumbra/bench"
	"penumbra/peel"
	"penumbra/phantom"
	"penumbra/sample"
)

// P24.2: a line that says nothing, put at any place, changes nothing that is told; all of them taken away neither.
func TestNothingsAnywhere(t *testing.T) {
	d := sample.Dice(312)
	for range 60 {
		lines := anyLines(3+d.Number(25), &d)
		want := checkScript(t, joined(lines, true))
		told(t, joined(lines, false), want)
		for at := range len(lines) + 1 {
			nothing := nothings()[d.Number(len(nothings())-1)]
			with := slices.Insert(slices.Clone(lines), at, nothing)
			told(t, joined(with, true), want)
			told(t, joined(with, false), want)
		}
		var with []string
		for _, line := range append(slices.Clone(lines), "#") {
			for range d.Number(3) {
				with = append(with, nothings()[d.Number(len(nothings())-1)])
			}
			with = append(with, line)
		}
		told(t, joined(with, d.Number(1) == 0), want)
		told(t, joined(slices.DeleteFunc(with, silent), d.Number(1) == 0), want)
	}
}

// P24.2: each of them, between any two lines of one script, once and many times.
func TestEveryNothing(t *testing.T) {
	lines := []string{"side 2", "rect 0 0 1 2 5 -1", "mass", "dir 1 0", "dir 2 2", "keep", "miss 1", "katz", "solve", "same 0", "dir 0 0", "width", "pack"}
	want := checkScript(t, joined(lines, true))
	for _, nothing := range nothings() {
		for at := range len(lines) + 1 {
			for _, many := range []int{1, 2, 499} {
				with := slices.Insert(slices.Clone(lines), at, slices.Repeat([]string{nothing}, many)...)
				told(t, joined(with, true), want)
			}
			beyond := slices.Insert(slices.Clone(lines), at, slices.Repeat([]string{nothing}, 500)...)
			refused(t, joined(beyond, true), 0)
		}
	}
	// Up to as many bytes as there may be.
	script := joined(lines, true)
	room := 65536 - len(script) - 2
	told(t, "#"+strings.Repeat("-", room)+"\n"+script, want)
	told(t, script+"#"+strings.Repeat("-", room)+"\n", want)
	refused(t, script+"#"+strings.Repeat("-", room+1)+"\n", 0)
}

// P24.2: such lines move the number of the first line that is none, and do no more to it.
func TestNothingsAheadOfAFault(t *testing.T) {
	d := sample.Dice(313)
	for range 500 {
		lines := anyLines(1+d.Number(9), &d)
		at := d.Number(len(lines) - 1)
		lines[at] = "side 1 1"
		refused(t, joined(lines, true), at+1)
		place := d.Number(len(lines))
		with := slices.Insert(slices.Clone(lines), place, nothings()...)
		if place <= at {
			at += len(nothings())
		}
		refused(t, joined(with, true), at+1)
	}
}

// P24.2: what a script's first lines tell is the beginning of what it tells, wherever it is cut.
func TestBeginnings(t *testing.T) {
	d := sample.Dice(314)
	for range 150 {
		lines := anyLines(3+d.Number(30), &d)
		for range d.Number(5) {
			lines = slices.Insert(lines, d.Number(len(lines)), nothings()[d.Number(len(nothings())-1)])
		}
		whole := play(t, joined(lines, true))
		before := ""
		for many := range len(lines) + 1 {
			first := play(t, joined(lines[:many], d.Number(1) == 0))
			if !strings.HasPrefix(whole, first) || !strings.HasPrefix(first, before) {
				t.Fatalf("%q: the first %d tell %s, all of them %s", lines, many, few(first), few(whole))
			}
			said := many > 0 && !silent(lines[many-1])
			if said == (len(first) == len(before)) || first != "" && !strings.HasSuffix(first, "\n") {
				t.Fatalf("%q: line %d tells %q", lines, many, first[len(before):])
			}
			before = first
		}
		if before != whole {
			t.Fatalf("%q: all lines tell %s", lines, few(before))
		}
	}
}

// P24.2: a script cut off at any byte is one, or its last line is none.
func TestCutAnywhere(t *testing.T) {
	d := sample.Dice(315)
	for range 25 {
		script := joined(anyLines(3+d.Number(10), &d), true)
		whole := play(t, script)
		for i := range len(script) + 1 {
			out := checkScript(t, script[:i])
			// A number that is cut off may be another one; all lines ahead of it stay.
			ended := strings.LastIndexByte(script[:i], '\n') + 1
			if first := play(t, script[:ended]); !strings.HasPrefix(whole, first) || out != "" && !strings.HasPrefix(out, first) {
				t.Fatalf("%q tells %s", script[:i], few(out))
			}
		}
	}
}

// P24.2: two scripts one behind the other: the second one goes on where the first has ended.
func TestOneBehindTheOther(t *testing.T) {
	d := sample.Dice(316)
	for range 100 {
		first, second := joined(anyLines(3+d.Number(10), &d), true), joined(anyLines(3+d.Number(10), &d), false)
		out := checkScript(t, first+second)
		if !strings.HasPrefix(out, play(t, first)) {
			t.Fatalf("%q, %q", first, second)
		}
	}
}

// P24.3: where solve tells a grid it is the phantom's Raster, whatever is missing; where it doesn't cells stay open.
func TestSolveTellsTheRaster(t *testing.T) {
	d := sample.Dice(317)
	grids, others := 0, 0
	for n := 1; n <= 64; n++ {
		for _, dirs := range d.Fans(n) {
			for _, missing := range d.Missings(len(dirs)) {
				if n > 24 && d.Number(n/8) > 2 {
					continue
				}
				p := d.Thing(n)
				ahead := laid(t, p) + along(dirs)
				want := oks(1 + len(p.Shapes) + len(dirs) + len(missing))
				raster, _ := phantom.Raster(p)
				var seen []api.Dir
				for place, d := range dirs {
					if !slices.Contains(missing, place) {
						seen = append(seen, d)
					}
				}
				open, _ := peel.Left(n, seen)
				if open == 0 {
					grids++
					want += gridText(raster) + "\n"
				} else {
					others++
					want += fmt.Sprintf("few %d\n", open)
				}
				told(t, ahead+lacking(missing)+"solve", want)
				slices.Reverse(missing) // it doesn't matter in which order they are named
				told(t, ahead+lacking(missing)+"solve", want)
			}
		}
	}
	if min(grids, others) < 400 {
		t.Errorf("the samples are too much alike: %d grids, %d without one", grids, others)
	}
}

// P24.3: likewise of phantoms of every kind there is, with none, each one and all missing, also when they have been moved.
func TestSolveOfAllPhantoms(t *testing.T) {
	d := sample.Dice(318)
	for _, n := range []int{1, 2, 3, 5, 8, 13} {
		for _, p := range sample.AllPhantoms(n) {
			dirs := d.Enough(n)
			moved, e := phantom.Moved(p, 1, -1)
			if e != api.OK {
				moved = p
			}
			raster, _ := phantom.Raster(moved)
			script := laid(t, p) + "move 1 -1\n" + along(dirs)
			out := play(t, script+"solve\n")
			if !strings.HasSuffix(out, "ok\n"+gridText(raster)+"\n") {
				t.Fatalf("%s: not the Raster: %s", few(script), few(out))
			}
			for place := range dirs {
				after := play(t, script+command("miss", place)+"\nsolve\n")
				if !strings.HasSuffix(after, "ok\n"+gridText(raster)+"\n") && !strings.Contains(after, "ok\nfew ") {
					t.Fatalf("%s, %d missing: %s", few(script), place, few(after))
				}
			}
			told(t, script+lacking(sample.Count(len(dirs)))+"solve\n", play(t, script+lacking(sample.Count(len(dirs))))+fmt.Sprintf("few %d\n", n*n))
		}
	}
}

// P2 (Angles): with more missing no fewer cells are open, and bounds are no narrower.
func TestMoreMissing(t *testing.T) {
	d := sample.Dice(319)
	for range 150 {
		n := 1 + d.Number(6)
		dirs := d.Picked(sample.Short(), 7)
		script := command("side", n) + "\n" + fmt.Sprintf("rect 0 0 %d %d 90 0\ndisc 1 1 2 80 0\nwedge %d 0 3 4 70 0\n", 1+d.Number(n), 1+d.Number(n), d.Number(2)) + along(dirs)
		script += "width\nkatz\n"
		for _, place := range shuffled(7, &d) {
			script += command("miss", place) + "\nwidth\nkatz\n"
		}
		width, open := -1, -1
		for _, line := range linesOf(checkScript(t, script)) {
			var answer string
			var value, sure int
			if _, e := fmt.Sscanf(line, "width %d %d", &value, &sure); e == nil {
				if value < width || sure > n*n || (sure == n*n) != (value == 0) {
					t.Fatalf("%s: %s behind width %d", few(script), line, width)
				}
				width = value
			}
			if _, e := fmt.Sscanf(line, "katz %s %d", &answer, &value); e == nil {
				if value < open || (answer == "yes") != (value == 0) {
					t.Fatalf("%s: %s behind %d open", few(script), line, open)
				}
				open = value
			}
		}
		if width != 255*n*n || open != n*n {
			t.Fatalf("%s: with all missing %d wide, %d open", few(script), width, open)
		}
	}
}

// P1, rule 5: a call hangs on its script alone: what was told before, or is told at the same time, doesn't show.
func TestCallsDoNotShow(t *testing.T) {
	d := sample.Dice(320)
	var scripts, wants []string
	for range 12 {
		scripts = append(scripts, joined(anyLines(20, &d), true))
	}
	scripts = append(scripts, "foo", empty+strings.Repeat("see 16 15\n", 200), "")
	for _, script := range scripts {
		out, _ := bench.Play(script)
		wants = append(wants, out)
	}
	for i, script := range scripts {
		if out, _ := bench.Play(script); out != wants[i] {
			t.Fatalf("%s tells otherwise the second time", few(script))
		}
		if !sample.Alone(func() []byte { out, e := bench.Play(script); return append([]byte(out), byte(e)) }) {
			t.Fatalf("%s tells otherwise beside itself", few(script))
		}
		if !sample.Alone(func() []byte { at, e := bench.Check(script); return []byte{byte(at), byte(e)} }) {
			t.Fatalf("%s is looked at otherwise beside itself", few(script))
		}
	}
}
