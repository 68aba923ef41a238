package bench_test

import (
	"fmt"
	"slices"
	"strings"
	"testing"

	"penumbra/api"
	"penumbra/phantom"
	"penumbra/sample"
)

// Each command by itself, at arguments of each kind: what it tells is held against the layers' own calls, by rules_test.

// all of a phantom that shows in a field of view of side 8 or less: along (16, 15) each cell has a bin of its own.
const all = "mass\nmoment\nsee 16 15\nsee 1 0\n"

// P24.1: every side there is, what is none, and that shapes are gone by it, directions and slices not.
func TestSide(t *testing.T) {
	for n := -70; n <= 70; n++ {
		checkScript(t, fmt.Sprintf("side %d\npack\nsee 1 0\n", n))
		checkScript(t, fmt.Sprintf("side 5\nrect 1 1 2 2 7 -7\nkeep\nall 2\nmiss 3\nside %d\n%skatz\nsame 0\nmiss 3\nkeep\nsolve\n", n, all))
	}
	for _, n := range ends() {
		tells(t, fmt.Sprintf("side %d", n), "err 1")
	}
	tells(t, "side 2\nrect 0 0 2 2 3 0\nside 2\nmass", "ok / ok / ok / mass 0,0")
	tells(t, "side 2\nrect 0 0 2 2 3 0\nside 65\nmass", "ok / ok / err 1 / mass 12,0")
}

// shapeLine: the command that adds a shape; false where a script can't say it.
func shapeLine(s api.Shape) (string, bool) {
	re, im := int(real(s.Worth)), int(imag(s.Worth))
	n := []int{s.X, s.Y, s.A, s.B, re, im}
	name := map[int]string{api.Rect: "rect", api.Disc: "disc", api.Wedge: "wedge"}[s.Kind]
	if s.Kind == api.Disc {
		n = slices.Delete(n, 3, 4)
	}
	line := command(name, n...)
	return line, isCommand(line) && complex(float64(re), float64(im)) == s.Worth && (s.Kind != api.Disc || s.B == 0)
}

// P24.1: shapes of each kind, and what is none, alone and behind others.
func TestShapes(t *testing.T) {
	many := 0
	for _, s := range slices.Concat(sample.Shapes(), sample.NoShapes()) {
		if line, says := shapeLine(s); says {
			many++
			checkScript(t, "side 7\n"+line+"\n"+all)
			checkScript(t, "side 7\ndisc 3 3 5 8 -9\n"+line+"\n"+line+"\n"+all+"move 3 -2\n"+all)
		}
	}
	for _, worth := range slices.Concat(sample.Worths(), sample.NoWorths()) {
		if line, says := shapeLine(sample.Wedge(0, 1, 3, 4, worth)); says {
			many++
			checkScript(t, "side 5\n"+line+"\n"+all)
		}
	}
	if many < 150 {
		t.Errorf("only %d shapes", many)
	}
}

// P24.1: every number of a shape in turn at its limits and one beyond, and at the ends of all numbers.
func TestShapesAtTheLimits(t *testing.T) {
	edges := append(ends(), -1, 0, 1, 2, 1023, -1023, 1<<20-1, 65534, -65535)
	for name, n := range map[string][]int{"rect": {1, 2, 3, 4, 5, 6}, "disc": {1, 2, 3, 4, 5}, "wedge": {1, 2, 3, 4, 5, 6}} {
		for place := range n {
			for _, edge := range edges {
				other := slices.Clone(n)
				other[place] = edge
				checkScript(t, "side 8\n"+command(name, other...)+"\n"+all)
			}
		}
	}
}

// P24.1: phantoms of every kind, laid line by line, are the same as by their text.
func TestPhantoms(t *testing.T) {
	for _, n := range []int{1, 2, 3, 7, 16} {
		for _, p := range sample.AllPhantoms(n) {
			script := laid(t, p)
			told := checkScript(t, script+all+"solve\ndir 16 15\nsolve\npack\nkeep\nsame 0\nwidth\nprove 3 -1\n")
			sum, _ := phantom.Mass(p)
			if want := numbers("mass", sum) + "\n"; !strings.HasPrefix(told, oks(1+len(p.Shapes))+want) {
				t.Fatalf("%s: not %s", few(script), want)
			}
		}
	}
}

// P24.1: moves, near and far, of phantoms without shapes, with some, and with one that stands at the end of the reach; there and back again.
func TestMove(t *testing.T) {
	steps := append(ends(), -3, -1, 0, 1, 2, 5, 1023, -1023, 2048, 2049, -2048, -2049)
	for _, script := range []string{"", "side 6\n", "side 6\nrect 1 2 3 2 5 -5\ndisc 2 2 4 7 1\n", "side 6\nwedge 0 0 5 5 1 0\nrect 1024 -1024 3 3 1 1\n", "side 6\nrect -5 -5 9 9 1 0\nside 6\n"} {
		for _, x := range steps {
			for _, y := range steps {
				checkScript(t, script+command("move", x, y)+"\n"+all)
			}
			checkScript(t, script+command("move", x, 1)+"\n"+command("move", -1, x)+"\n"+command("move", 1, -1)+"\n"+all)
		}
	}
	// One that can't be moved keeps all of them where they are, whichever it is.
	tells(t, "side 3\nrect 0 0 1 1 1 0\nrect 1024 0 1 1 1 0\nmove 1 0\nsee 0 1\nmove -1 0\nmove 1 0\nsee 0 1", "ok / ok / ok / err 70 / bins 1,0 0,0 0,0 / ok / ok / bins 1,0 0,0 0,0")
	tells(t, "side 3\nrect 1024 0 1 1 1 0\nrect 0 0 1 1 1 0\nmove 1 0\nsee 0 1", "ok / ok / ok / err 70 / bins 1,0 0,0 0,0")
}

// P24.1: directions in every form, as they are added and as things are seen along them.
func TestDirAndSee(t *testing.T) {
	thing := "side 4\nrect 0 0 2 3 5 -1\nwedge 1 1 3 3 2 9\n"
	for p := -20; p <= 20; p++ {
		for q := -20; q <= 20; q++ {
			checkScript(t, thing+command("see", p, q)+"\n"+command("dir", p, q)+"\nkatz\nsolve\n"+command("dir", -2*p, -2*q)+"\n"+command("see", 3*p, 3*q))
		}
	}
	big := append(ends(), -17, -16, 0, 1, 15, 16, 17, 32, 34, 1<<31-16, 16<<26, 15<<26, -7<<27)
	for _, p := range big {
		for _, q := range big {
			if p <= 2147483647 && q <= 2147483647 {
				checkScript(t, thing+command("see", p, q)+"\n"+command("dir", p, q)+"\nkatz")
			}
		}
	}
	for n := 1; n <= 64; n++ {
		d := sample.Dirs()[n%20]
		checkScript(t, command("side", n)+"\ndisc 3 3 40 1 2\n"+command("see", d.P, d.Q)+"\n"+command("dir", d.P, d.Q)+"\nkatz\nsolve")
	}
}

// P24.1: all directions of so many steps; those that were there are gone, and none is missing any more.
func TestAll(t *testing.T) {
	for k := -2; k <= 20; k++ {
		for _, ahead := range []string{"", "dir 5 3\nmiss 0\n", "all 2\nmiss 4\nmiss 0\n", "all 6\nmiss 47\n"} {
			checkScript(t, "side 5\ndisc 2 2 5 3 0\n"+ahead+command("all", k)+"\nkatz\nsolve\nwidth\nmiss 0\nmiss 1\nmiss 4\nkatz\nwidth\ndir 1 0\ndir 16 15\nmiss 48")
		}
	}
	for _, k := range ends() {
		tells(t, command("all", k), "err 1")
	}
	// 24, 40 and 48 of them are few enough, 72 are not.
	for k, many := range []int{0, 4, 8, 16, 24, 40, 48} {
		if k > 0 {
			tells(t, fmt.Sprintf("all %d\nmiss %d\nmiss %d", k, many, many-1), "ok / err 230 / ok")
		}
	}
	for k := 7; k <= 16; k++ {
		tells(t, command("all", k), "err 2")
	}
}

// P24.1: as many directions as there may be, and one more.
func TestMostDirs(t *testing.T) {
	wheel := sample.Wheel()
	for _, last := range []string{"none", "all 1", "all 6"} {
		checkScript(t, "side 9\nrect 1 1 3 4 5 6\n"+along(wheel[:66])+"katz\nmiss 63\nmiss 64\n"+last+"\nkatz\n"+along(wheel[:3]))
	}
	told(t, along(wheel[:66])+"miss 64\nmiss 63\ndir 1 17\n", oks(64)+"err 2\nerr 2\nerr 230\nok\nerr 60\n")
	for _, d := range wheel[:64] { // one that is there, of so many: too many comes first
		told(t, along(wheel[:64])+command("dir", d.P, d.Q), oks(64)+"err 2\n")
		told(t, along(wheel[:63])+command("dir", wheel[62].P, wheel[62].Q), oks(63)+"err 3\n")
	}
	told(t, along(wheel[:64])+lacking(sample.Count(64))+"dir 1 1\nkatz\n", oks(128)+"err 2\nkatz no 1\n") // missing ones count
}

// P24.1: places are missing in any order; each that there is once, no other ever.
func TestMiss(t *testing.T) {
	d := sample.Dice(305)
	for range 300 {
		n, many := 1+d.Number(6), 1+d.Number(7)
		dirs := d.Picked(sample.Short(), many)
		script := laid(t, d.Thing(n)) + along(dirs)
		for range d.Number(12) {
			script += command("miss", d.Number(many+2)-1) + "\nkatz\nsolve\nwidth\n"
		}
		checkScript(t, script+along(d.Picked(sample.Short(), 3))+"katz\nsolve\nwidth")
	}
	for _, i := range append(ends(), -1, 3, 4, 64) {
		tells(t, "dir 1 0\ndir 0 1\ndir 1 1\n"+command("miss", i)+"\nmiss 0\n"+command("miss", i), "ok / ok / ok / err 230 / ok / err 230")
	}
	for _, order := range sample.Orders(sample.Dirs()[:4]) { // which place is whose direction
		script := "side 3\nwedge 0 0 3 2 4 1\n" + along(order)
		for place := range 4 {
			checkScript(t, script+command("miss", place)+"\nkatz\nsolve\n"+command("miss", (place+1)%4)+"\nkatz\nsolve")
		}
	}
	// Places that are named downwards, as a plan may not have them.
	tells(t, "side 2\nrect 1 0 1 1 9 0\nall 1\nmiss 3\nmiss 0\nsolve\nmiss 1\nsolve\nmiss 2\nsolve", "ok / ok / ok / ok / ok / grid 2 / row 0,0 9,0 / row 0,0 0,0 / ok / few 4 / ok / few 4")
}

// P24.1: mass, moment and pack at every side.
func TestEverySide(t *testing.T) {
	d := sample.Dice(306)
	for n := 1; n <= 64; n++ {
		checkScript(t, laid(t, d.Thing(n))+"mass\nmoment\npack\nprove 1 -1\nkeep\nsame 0\nwidth\nkatz\nsolve")
	}
}

// P24.1: proofs at every side, along any numbers.
func TestProve(t *testing.T) {
	d := sample.Dice(307)
	slopes := append(ends(), -65, -64, -3, -1, 0, 1, 2, 5, 63, 64)
	for n := 1; n <= 64; n++ {
		script := laid(t, d.Thing(n))
		for range 6 {
			script += command("prove", slopes[d.Number(len(slopes)-1)], slopes[d.Number(len(slopes)-1)]) + "\n"
		}
		checkScript(t, script)
	}
	for _, p := range sample.Brimful(64) {
		if out := play(t, laid(t, p)+"prove 1 1\nprove 63 17\nprove -2147483648 2147483647\n"); !strings.HasSuffix(out, "ok\nproved\nproved\nproved\n") {
			t.Errorf("%v: %s", p, out)
		}
	}
}

// P24.1: widths of levels, with directions that are missing, and of what isn't levels.
func TestWidth(t *testing.T) {
	d := sample.Dice(308)
	count := map[string]int{}
	for n := 1; n <= 18; n++ {
		for range 25 {
			script := command("side", n) + "\n"
			for range 1 + d.Number(4) {
				worth := []int{d.Number(75), d.Number(75), d.Number(75), d.Number(300), d.Number(75) - 15}[d.Number(4)]
				script += fmt.Sprintf("rect %d %d %d %d %d 0\n", d.Number(n)-1, d.Number(n)-1, 1+d.Number(n), 1+d.Number(n), worth)
			}
			many := 1 + d.Number(6)
			script += along(d.Picked(sample.Short(), many)) + "width\n" + command("miss", d.Number(many-1)) + "\nwidth\nnone\nwidth\nall 2\nwidth"
			for _, line := range linesOf(checkScript(t, script)) {
				word, _, _ := strings.Cut(line, " ")
				if word == "err" {
					word = line
				}
				count[word]++
			}
		}
	}
	if count["width"] < 600 || min(count["err 1"], count["err 110"], count["err 111"]) < 30 {
		t.Errorf("the samples are too much alike: %v", count)
	}
}

// ring: a phantom of which bounds are drawn together sweep after sweep: ten cells, two in each of five rows and columns, and ten more by 8, 7 from these, of which each adds up to most with its own; two cells of -1 and 1, which are taken for 0, so that one row has 1 less than there is, and a bound that has gone all round the ring comes back higher by 1; and a block that takes up what is wrong in the columns of these.
func ring(most int) string {
	script := "side 16\n"
	for i := range 5 {
		script += fmt.Sprintf("rect %d %d 1 1 %d 0\nrect %d %d 1 1 %d 0\n", i, i, most, 8+(i+1)%5, 7+i, most)
	}
	return script + "rect 5 5 3 2 127 0\nrect 13 12 3 2 128 0\nrect 5 0 1 1 -1 0\nrect 13 7 1 1 1 0\n"
}

// P24.1: all sweeps that there may be have been made, or the contradiction shows just ahead of that.
func TestWidthOfManySweeps(t *testing.T) {
	for most, want := range map[int]string{100: "err 111", 204: "err 111", 205: "err 112", 255: "err 112"} {
		for _, dirs := range []string{"dir 8 7\ndir 1 0\ndir 0 1\n", "dir 0 1\ndir 1 0\ndir 8 7\n"} {
			told(t, ring(most)+dirs+"width\n", oks(18)+want+"\n")
			checkScript(t, ring(most)+dirs+"width\nmiss 1\nwidth\nmiss 0\nwidth")
		}
	}
}

// P24.1: slices of all kinds one behind the other, each held against all of them.
func TestKeepAndSame(t *testing.T) {
	d := sample.Dice(309)
	yes, no := 0, 0
	for range 60 {
		script, slices := "", 0
		for range 1 + d.Number(6) {
			n := 1 + d.Number(4)
			p := d.Thing(n)
			script += laid(t, p) + "keep\n"
			slices++
			if d.Number(1) == 0 {
				script += command("move", d.Number(2)-1, d.Number(2)-1) + "\nkeep\nkeep\n"
				slices += 2
			}
			for i := range slices + 2 {
				script += command("same", i-1) + "\n"
			}
		}
		out := checkScript(t, script)
		yes, no = yes+strings.Count(out, "yes\n"), no+strings.Count(out, "no\n")
	}
	if min(yes, no) < 200 {
		t.Errorf("the samples are too much alike: %d are the same, %d not", yes, no)
	}
	for _, i := range append(ends(), -1, 1, 2, 64) {
		tells(t, "keep\n"+command("same", i)+"\nsame 0", "slices 1 13 / err 1 / yes")
	}
	// Another side with the same cells is not the same.
	tells(t, "side 3\nkeep\nside 2\nsame 0\nkeep\nsame 1\nside 3\nsame 0\nsame 1", "ok / slices 1 29 / ok / no / slices 2 48 / yes / ok / yes / no")
}
