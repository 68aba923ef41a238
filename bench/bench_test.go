package bench_test

import (
	"fmt"
	"strings"
	"testing"

	"penumbra/api"
	"penumbra/bench"
	"penumbra/sample"
)

// P24.1: the chapter's examples, word for word.
func TestExamples(t *testing.T) {
	tells(t, "side 2\nrect 0 0 1 2 5 -1\nmass\nsee 0 1\nkatz\ndir 1 0\ndir 2 2\nsolve\n", "ok / ok / mass 10,-2 / bins 10,-2 0,0 / katz no 4 / ok / ok / grid 2 / row 5,-1 0,0 / row 5,-1 0,0")
	tells(t, "side 65\nside 2\nrect 0 0 0 1 1 1\ndir 0 0\ndir 1 0\ndir 2 0\nmiss 1\nmiss 0\nmiss 0\nsolve", "err 1 / ok / err 70 / err 1 / ok / err 3 / err 230 / ok / err 230 / few 4")
	tells(t, "side 2\nkeep\nrect 0 0 1 1 1 0\nsame 0\nkeep\nsame 1\nsame 2\nprove 1 1\npack\nwidth", "ok / slices 1 19 / ok / no / slices 2 38 / yes / err 1 / proved / pack 2 10 / width 1020 0")
	for _, script := range []string{"mass \n", " mass", "mass 1", "side 02", "side -0", "side 2147483648", "\t"} {
		refused(t, script, 1)
	}
	refused(t, "#\n\nfoo", 3)
	told(t, "", "")
}

// P24.1: the ten examples of the whole, word for word.
func TestExamplesOfTheWhole(t *testing.T) {
	first := "side 2\nrect 0 0 1 2 5 -1\n"
	tells(t, first+"mass\n", "ok / ok / mass 10,-2")
	tells(t, first+"mass\nsee 0 1\n", "ok / ok / mass 10,-2 / bins 10,-2 0,0")
	tells(t, first+"mass\nsee 1 0\n", "ok / ok / mass 10,-2 / bins 5,-1 5,-1")
	tells(t, first+"katz\n", "ok / ok / katz no 4")
	third := first + "dir 1 0\ndir 2 2\n"
	tells(t, third+"katz\n", "ok / ok / ok / ok / katz yes 0")
	tells(t, third+"solve\n", "ok / ok / ok / ok / grid 2 / row 5,-1 0,0 / row 5,-1 0,0")
	tells(t, third+"miss 1\nsolve\n", "ok / ok / ok / ok / ok / few 4")
	tells(t, first+"moment\nmove 1 0\nmoment\n", "ok / ok / moment 0,0 5,-1 / ok / moment 10,-2 5,-1")
	tells(t, first+"prove 1 1\npack\n", "ok / ok / proved / pack 2 10")
	tells(t, first+"keep\nkeep\nsame 0\n", "ok / ok / slices 1 19 / slices 2 38 / yes")
	tells(t, "side 2\nrect 0 0 1 1 7 0\nall 1\nwidth\n", "ok / ok / ok / width 0 4")
	tells(t, "side 17\nwidth\n", "ok / err 1")
	tells(t, "side 3\nprove 1 1\n", "ok / err 30")
}

// P24.1: what stands at first: a phantom of side 1 without shapes, no directions, none missing, no slices.
func TestAtFirst(t *testing.T) {
	tells(t, "mass\nmoment\nsee 3 -4\nkatz\nsolve\nwidth\nprove 7 -7\npack\nsame 0\nmiss 0\nkeep\nsame 0", "mass 0,0 / moment 0,0 0,0 / bins 0,0 / katz no 1 / few 1 / width 255 0 / proved / pack 2 4 / err 1 / err 230 / slices 1 13 / yes")
	tells(t, "none\ndir 0 -5\nkatz\nsolve\nwidth", "ok / ok / katz yes 0 / grid 1 / row 0,0 / width 0 1")
	tells(t, "move 2147483647 -2147483648\nmass", "ok / mass 0,0")
}

// P24.1: answers that are written out, of every command.
func TestWrittenOut(t *testing.T) {
	plus := "side 3\ndisc 1 1 1 2 -3\n" // .2. 222 .2.
	tells(t, plus+"mass\nmoment\nsee 1 0\nsee 0 -9\nsee 1 1\nsee -4 4", "ok / ok / mass 10,-15 / moment 10,-15 10,-15 / bins 2,-3 6,-9 2,-3 / bins 2,-3 6,-9 2,-3 / bins 0,0 4,-6 2,-3 4,-6 0,0 / bins 0,0 4,-6 2,-3 4,-6 0,0")
	stairs := "side 3\nwedge 0 0 3 3 1 0\n" // 111 11. 1..
	tells(t, stairs+"see 1 0\nsee 0 1\nmass\nmoment", "ok / ok / bins 1,0 2,0 3,0 / bins 3,0 2,0 1,0 / mass 6,0 / moment 4,0 4,0")
	tells(t, stairs+"dir 1 0\ndir 0 1\nkatz\nsolve\ndir -1 1\nkatz\nsolve\ndir 1 1\nkatz\nsolve", "ok / ok / ok / ok / katz no 9 / few 9 / ok / katz no 7 / few 7 / ok / katz yes 0 / grid 3 / row 1,0 1,0 1,0 / row 1,0 1,0 0,0 / row 1,0 0,0 0,0")
	tells(t, "side 2\nrect 0 0 2 2 65536 -65536\n"+strings.Repeat("rect 0 0 2 2 65536 -65536\n", 15)+"mass\nmoment", strings.Repeat("ok / ", 17)+"mass 4194304,-4194304 / moment 2097152,-2097152 2097152,-2097152")
	tells(t, "side 2\nrect 0 0 1 1 1 0\nrect 1 0 1 1 2 0\nrect 0 1 1 1 3 0\nrect 1 1 1 1 4 0\ndir 1 0\ndir 0 1\nwidth\npack\nkeep\nmove 1 0\nsame 0\nmove -1 0\nsame 0", "ok / ok / ok / ok / ok / ok / ok / width 12 0 / pack 2 10 / slices 1 19 / ok / no / ok / yes")
	tells(t, "side 2\nrect 1 1 1 1 255 0\ndir 1 0\ndir 0 1\nwidth", "ok / ok / ok / ok / width 0 4")
	tells(t, "side 1\nrect 0 0 1 1 300 0\nwidth\ndir 1 0\nwidth\nmove 1 1\nwidth\nmiss 0\nwidth", "ok / ok / width 255 0 / ok / err 111 / ok / width 0 1 / ok / width 255 0")
	tells(t, "all 1\ndir 1 1\ndir -2 1\nnone\ndir 1 1\nmiss 0\ndir 1 1\ndir -2 1\nmiss 0\nmiss 1", "ok / err 3 / ok / ok / ok / ok / err 3 / ok / err 230 / ok")
}

// P24.1: the greatest mass, moments and bins there are, either way, which no 32 bits hold.
func TestGreatNumbers(t *testing.T) {
	for _, sign := range []string{"", "-"} {
		script := "side 64\n" + strings.Repeat("rect 0 0 64 64 "+sign+"65536 "+sign+"65536\n", 16)
		tells(t, script+"mass\nmoment", strings.Repeat("ok / ", 17)+fmt.Sprintf("mass %[1]s4294967296,%[1]s4294967296 / moment %[1]s135291469824,%[1]s135291469824 %[1]s135291469824,%[1]s135291469824", sign))
		bin := fmt.Sprintf(" %[1]s67108864,%[1]s67108864", sign)
		told(t, script+"see 1 0\n", oks(17)+"bins"+strings.Repeat(bin, 64)+"\n")
		cell := fmt.Sprintf(" %[1]s1048576,%[1]s1048576", sign)
		told(t, script+"dir 16 15\ndir 15 16\ndir 16 13\ndir 13 16\ndir 11 16\nsolve\n", oks(22)+"grid 64\n"+strings.Repeat("row"+strings.Repeat(cell, 64)+"\n", 64))
	}
}

// P24.1: a script of no line, of empty ones, and of ones with # alone tells nothing.
func TestNothingIsSaid(t *testing.T) {
	told(t, "", "")
	for _, line := range nothings() {
		for _, many := range []int{1, 2, 3, 511, 512} {
			told(t, strings.Repeat(line+"\n", many), "")
			told(t, strings.Repeat(line+"\n", many-1)+line, "")
		}
	}
	told(t, strings.Join(nothings(), "\n"), "")
}

// P24.1: any commands one behind the other tell what the chapter's words do.
func TestScripts(t *testing.T) {
	d := sample.Dice(301)
	first := map[string]int{} // of each line that is told
	errs := map[string]int{}  // by the command and the error
	for range 4000 {
		lines := anyLines(2+d.Number(40), &d)
		out := checkScript(t, joined(lines, d.Number(1) == 0))
		at := 0
		for _, told := range linesOf(out) {
			word, rest, _ := strings.Cut(told, " ")
			if word == "row" { // behind its grid
				continue
			}
			first[word]++
			if word == "err" {
				name, _, _ := strings.Cut(lines[at], " ")
				errs[name+" "+rest]++
			}
			at++
		}
		if at != len(lines) {
			t.Fatalf("%d commands told %d times", len(lines), at)
		}
	}
	for _, word := range []string{"ok", "mass", "moment", "bins", "katz", "few", "grid", "width", "proved", "pack", "slices", "yes", "no", "err"} {
		if first[word] < 300 {
			t.Errorf("%s is told %d times", word, first[word])
		}
	}
	for _, err := range []string{
		"side 1", "rect 2", "rect 70", "rect 80", "disc 2", "disc 70", "disc 80", "wedge 2", "wedge 70", "wedge 80", "move 70", "dir 1", "dir 60", "dir 3", "all 1", "all 2",
		"miss 230", "see 1", "see 60", "width 1", "width 110", "width 111", "prove 30", "same 1",
	} {
		if errs[err] < 10 {
			t.Errorf("%s is told %d times", err, errs[err])
		}
	}
}

// P1, rule 1: no call panics, whatever bytes it is given.
func TestAnyBytes(t *testing.T) {
	d := sample.Dice(302)
	letters := []byte("\n\n  ##--019masidekp\x00\xff\r\t")
	for range 20000 {
		b := make([]byte, d.Number(60))
		for i := range b {
			b[i] = letters[d.Number(len(letters)-1)]
			if d.Number(9) == 0 {
				b[i] = byte(d.Word())
			}
		}
		checkScript(t, string(b))
	}
}

// P24.1: Check tells no more than whether a script is one: commands that will tell an error are ones.
func TestCheckDoesNotPlay(t *testing.T) {
	for _, script := range []string{"side 0", "side -2147483648", "rect 0 0 0 0 0 0", "disc 0 0 -1 2147483647 0", "dir 0 0", "all 17", "miss 5", "see 0 0", "same 0", "side 64\nwidth\nprove 1 1"} {
		if at, e := bench.Check(script); at != 0 || e != api.OK {
			t.Errorf("Check(%q): %d, error %d", script, at, e)
		}
	}
}
