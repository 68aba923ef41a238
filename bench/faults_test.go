package bench_test

import (
	"fmt"
	"slices"
	"strings"
	"testing"

	"penumbra/api"
	"penumbra/sample"
)

// full: as many shapes as there may be.
func full() string { return strings.Repeat("rect 0 0 1 1 1 0\n", 16) }

// crowd: as many directions as there may be.
func crowd() string { return along(sample.Wheel()[:64]) }

// A fault is a command that tells an error behind other lines.
type fault struct {
	ahead, line string
	want        api.Errno
}

// faults: each command's errors, alone and several at once.
func faults() []fault {
	there := command("dir", sample.Wheel()[7].P, sample.Wheel()[7].Q)
	return []fault{
		{"", "side 0", api.ErrArg}, {"", "side 65", api.ErrArg}, {"side 5\n" + full(), "side -1", api.ErrArg},

		{"", "rect 0 0 0 1 1 1", api.ErrShape}, {"", "rect 0 0 1 1025 1 1", api.ErrShape}, {"", "rect 1025 0 1 1 1 1", api.ErrShape}, {"", "rect 0 0 1 1 65537 0", api.ErrWorth}, {"", "rect 0 0 1 1 0 -65537", api.ErrWorth},
		{"", "disc 0 0 -1 1 1", api.ErrShape}, {"", "disc 0 0 1048577 1 1", api.ErrShape}, {"", "disc 0 -1025 1 1 1", api.ErrShape}, {"", "disc 0 0 1 -65537 0", api.ErrWorth},
		{"", "wedge 0 0 1 0 1 1", api.ErrShape}, {"", "wedge 0 0 1 1 0 65537", api.ErrWorth},
		{"side 3\nrect 0 0 2 2 1 1\n", "rect 0 0 0 0 65537 65537", api.ErrShape}, {"", "disc 0 0 -1 65537 65537", api.ErrShape}, {"", "wedge 0 0 0 1 -65537 0", api.ErrShape}, // no shape, and no worth
		{full(), "rect 0 0 1 1 1 1", api.ErrLong}, {full(), "disc 0 0 1 1 1", api.ErrLong}, {full(), "wedge 0 0 1 1 1 1", api.ErrLong}, // too many
		{full(), "rect 0 0 0 1 1 1", api.ErrLong}, {full(), "disc 0 0 -1 1 1", api.ErrLong}, {full(), "wedge 0 0 1 1 65537 1", api.ErrLong}, {full(), "rect 0 0 0 0 65537 65537", api.ErrLong}, // and none

		{"rect 0 0 1 1 1 0\n", "move 1025 0", api.ErrShape}, {"rect 0 0 1 1 1 0\n", "move 0 -2147483648", api.ErrShape}, {"rect 1024 0 1 1 1 0\n", "move 1 0", api.ErrShape}, {full() + "", "move -1025 3", api.ErrShape},

		{"", "dir 0 0", api.ErrArg}, {"", "dir 17 1", api.ErrDir}, {"", "dir 34 2", api.ErrDir}, {"", "dir 2147483647 2147483646", api.ErrDir}, {"dir 1 0\n", "dir 1 0", api.ErrTwice}, {"dir 1 0\n", "dir -7 0", api.ErrTwice}, {"all 2\nmiss 3\n", "dir 4 2", api.ErrTwice}, {"dir 2 4\nmiss 0\n", "dir -1 -2", api.ErrTwice},
		{crowd(), "dir 0 0", api.ErrArg}, {crowd(), "dir 1 17", api.ErrDir}, {crowd(), there, api.ErrLong}, {along(sample.Wheel()[:63]), there, api.ErrTwice}, {crowd(), command("dir", sample.Wheel()[64].P, sample.Wheel()[64].Q), api.ErrLong},

		{"", "all 0", api.ErrArg}, {"", "all 17", api.ErrArg}, {"all 3\nmiss 2\n", "all -1", api.ErrArg}, {"", "all 7", api.ErrLong}, {"all 3\nmiss 2\n", "all 16", api.ErrLong}, {crowd(), "all 8", api.ErrLong},

		{"", "miss 0", api.ErrPlan}, {"dir 1 0\n", "miss 1", api.ErrPlan}, {"dir 1 0\n", "miss -1", api.ErrPlan}, {"all 2\nmiss 5\nmiss 3\n", "miss 5", api.ErrPlan}, {"all 2\nmiss 5\nmiss 3\n", "miss 3", api.ErrPlan}, {"all 2\nmiss 5\nnone\n", "miss 5", api.ErrPlan},

		{"", "see 0 0", api.ErrArg}, {"", "see 17 1", api.ErrDir}, {"", "see -51 3", api.ErrDir},

		{"side 17\nall 1\n", "width", api.ErrArg}, {"side 64\nrect 0 0 9 9 -1 1\nall 1\n", "width", api.ErrArg}, // also where bins are none
		{"side 4\nrect 0 0 4 4 -1 0\nall 1\n", "width", api.ErrBins}, {"side 4\nrect 0 0 4 4 0 1\ndir 1 0\n", "width", api.ErrBins}, {"side 2\nrect 0 0 1 1 300 0\nrect 1 1 1 1 -1 0\nall 1\n", "width", api.ErrBins}, // also where others contradict the bounds
		{"side 2\nrect 0 0 1 1 256 0\nall 1\n", "width", api.ErrClash}, {"rect 0 0 1 1 256 0\nall 1\n", "width", api.ErrClash}, {ring(255) + "dir 1 0\ndir 8 7\ndir 0 1\n", "width", api.ErrFew},

		{"side 3\n", "prove 1 1", api.ErrLen}, {"side 63\nrect 0 0 5 5 1 1\n", "prove 0 0", api.ErrLen},

		{strings.Repeat("keep\n", 64), "keep", api.ErrLong}, {"side 2\n" + strings.Repeat("keep\nrect 0 0 1 1 1 0\nmove 1 0\n", 8) + strings.Repeat("keep\n", 56), "keep", api.ErrLong},

		{"", "same 0", api.ErrArg}, {"keep\nkeep\n", "same 2", api.ErrArg}, {"keep\nkeep\n", "same -1", api.ErrArg}, {strings.Repeat("keep\n", 64), "same 64", api.ErrArg},
	}
}

// probes: lines behind which all that is kept shows: the phantom with what lies outside of its field of view and how many shapes it has; which directions there are, in which order, and which are missing; the slices.
func probes() string {
	out := "mass\nmoment\nsee 1 0\nsee 0 1\nsee 1 1\nsee 16 15\npack\nkatz\nsolve\nwidth\nprove 1 3\n"
	for i := range 4 {
		out += command("same", i*i) + "\n"
	}
	out += "keep\n"
	for _, step := range []string{"1 0", "0 2", "-3 -4", "1000 0"} {
		out += "move " + step + "\nmass\nsee 16 15\nkeep\n"
	}
	for range 17 {
		out += "rect 0 0 1 1 2 0\n"
	}
	out += "mass\n"
	for place := range 8 {
		out += command("miss", place) + "\nkatz\n"
	}
	for _, d := range slices.Concat(sample.Short(), sample.Dirs()[10:16], sample.Wheel()[:5]) {
		out += command("dir", d.P, d.Q) + "\n"
	}
	return out + "katz\nmiss 8\nkatz\nmiss 63\nmiss 64\n"
}

// P24.1: the error that is told, and that it changes nothing.
func TestFaults(t *testing.T) {
	seen := map[string]bool{}
	for _, f := range faults() {
		script := f.ahead + f.line
		before := play(t, f.ahead)
		told(t, script, before+fmt.Sprintf("err %d\n", int(f.want)))
		checkScript(t, script)
		rest, found := strings.CutPrefix(play(t, f.ahead+probes()), before)
		if !found {
			t.Fatalf("%s: another beginning", few(script))
		}
		err := fmt.Sprintf("err %d\n", int(f.want))
		told(t, script+"\n"+probes(), before+err+rest)
		told(t, script+"\n"+f.line+"\n"+f.line+"\n"+probes(), before+err+err+err+rest)
		name, _, _ := strings.Cut(f.line, " ")
		seen[fmt.Sprint(name, " ", int(f.want))] = true
	}
	for _, err := range []string{
		"side 1", "rect 2", "rect 70", "rect 80", "disc 2", "disc 70", "disc 80", "wedge 2", "wedge 70", "wedge 80", "move 70", "dir 1", "dir 60", "dir 2", "dir 3", "all 1", "all 2",
		"miss 230", "see 1", "see 60", "width 1", "width 110", "width 111", "width 112", "prove 30", "keep 2", "same 1",
	} {
		if !seen[err] {
			t.Errorf("%s is not among them", err)
		}
	}
}

// P24.1: commands that tell an error, put between any others, tell it and change nothing.
func TestFaultsBetween(t *testing.T) {
	d := sample.Dice(310)
	always := []string{"side 0", "side 65", "rect 0 0 0 1 1 1", "disc 0 0 -1 0 0", "dir 0 0", "dir 17 16", "all 0", "all 17", "all 7", "miss -1", "miss 64", "see 0 0", "see 1 17", "same -1", "same 64"}
	for range 1500 {
		lines := anyLines(3+d.Number(20), &d)
		want := play(t, joined(lines, true))
		at := d.Number(len(lines))
		wrong := always[d.Number(len(always)-1)]
		ahead := play(t, joined(lines[:at], true))
		rest, _ := strings.CutPrefix(want, ahead)
		both := play(t, joined(slices.Insert(slices.Clone(lines), at, wrong), true))
		err := play(t, joined(append(slices.Clone(lines[:at]), wrong), true))[len(ahead):]
		if !strings.HasPrefix(err, "err ") || strings.Count(err, "\n") != 1 || both != ahead+err+rest {
			t.Fatalf("%q at %d of %q: %s, without it %s", wrong, at, lines, few(both), few(want))
		}
	}
}

// P24.1: commands that only tell change nothing, whatever they tell.
func TestTellingChangesNothing(t *testing.T) {
	d := sample.Dice(311)
	for range 80 {
		lines := anyLines(3+d.Number(12), &d)
		ahead := joined(lines, true)
		before := play(t, ahead)
		rest, _ := strings.CutPrefix(play(t, ahead+probes()), before)
		for _, name := range []string{"mass", "moment", "see", "katz", "solve", "width", "prove", "pack", "same"} {
			line := command(name, arguments(name, &d)...) + "\n"
			out := play(t, ahead+line+line)
			twice := out[len(before):]
			if half := twice[:len(twice)/2]; half+half != twice {
				t.Fatalf("%q behind %q tells %s", line, lines, few(twice))
			}
			told(t, ahead+line+line+probes(), out+rest)
		}
	}
}
